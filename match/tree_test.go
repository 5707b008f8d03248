package match

import (
	"math/rand"
	"testing"

	"cubeb/api"
)

// slowTree reports whether parents are a join tree, by the definition.
func slowTree(q Query, parent []int) bool {
	n := len(q.Body)
	if len(parent) != n {
		return false
	}
	roots := 0
	for i, p := range parent {
		if p < -1 || p >= n || p == i {
			return false
		}
		if p == -1 {
			roots++
		}
	}
	everywhere := make([]bool, n)
	for i := range everywhere {
		everywhere[i] = true
	}
	// With one root and one edge less than atoms, connected is the same as without cycles.
	if roots != 1 || !reachesAll(parent, everywhere) {
		return false
	}
	for v := range 8 {
		has := make([]bool, n)
		for i, a := range q.Body {
			has[i] = a.variables()>>v&1 == 1
		}
		if !reachesAll(parent, has) {
			return false
		}
	}
	return true
}

// reachesAll reports whether the marked atoms are connected by parents among them.
func reachesAll(parent []int, marked []bool) bool {
	group := make([]int, len(parent))
	for i := range group {
		group[i] = i
	}
	for range parent {
		for i, p := range parent {
			if p >= 0 && marked[i] && marked[p] {
				group[i] = min(group[i], group[p])
				group[p] = group[i]
			}
		}
	}
	first := -1
	for i := range group {
		if marked[i] && first < 0 {
			first = group[i]
		}
		if marked[i] && group[i] != first {
			return false
		}
	}
	return true
}

func allParents(n int, f func([]int)) {
	parent := make([]int, n)
	total := 1
	for range n {
		total *= n + 1
	}
	for x := range total {
		for i := range parent {
			parent[i] = x%(n+1) - 1
			x /= n + 1
		}
		f(parent)
	}
}

func TestRest(t *testing.T) {
	for _, x := range []struct {
		q    Query
		rest int
	}{
		{triangle, 7},
		{path, 0},
		{query(nil, at(0, -1)), 0},
		{query(nil, at(0, 0), at(0, 1)), 0},
		{query(nil, at(0, 0), at(0, 0), at(0, -1), at(1, -1)), 0},
		{query(nil, at(0, 0, 1), at(0, 1, 2), at(0, 2, 0), at(0, 0, 1)), 7},
		{query(nil, at(0, 0, 1), at(0, 1, 2), at(0, 2, 0), at(1, 0, 1, 2)), 0},
		{query(nil, at(0, 5, 0), at(0, 0, 1), at(0, 1, 2), at(0, 2, 0), at(0, 6, 6)), 14},
		{query(nil, at(0, 0, 1), at(0, 1, 2), at(0, 2, 3), at(0, 3, 0)), 15},
	} {
		rest, e := Rest(x.q)
		want(t, "Rest", rest, e, x.rest, api.OK)
	}
}

func TestJoinTree(t *testing.T) {
	l, e := JoinTree(triangle)
	want(t, "JoinTree", l, e, nil, api.ErrLoop)
	r := rand.New(rand.NewSource(4))
	for range 600 {
		q := someQuery(r, 5)
		rest, _ := Rest(q)
		l, e := JoinTree(q)
		if (e == api.OK) != (rest == 0) || (e == api.ErrLoop) != (rest != 0) || e == api.OK && !slowTree(q, l) {
			t.Error(q, rest, l, e)
		}
		some := false
		allParents(len(q.Body), func(parent []int) {
			ok, e := CheckTree(q, parent)
			want(t, "CheckTree", ok, e, slowTree(q, parent), api.OK)
			some = some || ok
		})
		if some != (rest == 0) {
			t.Error("CheckTree accepts", q, rest)
		}
	}
}

func TestCheckTree(t *testing.T) {
	for _, x := range []struct {
		parent []int
		ok     bool
	}{
		{[]int{-1, 0}, true}, {[]int{1, -1}, true}, {[]int{-1, -1}, false}, {[]int{1, 0}, false}, {[]int{-1, 1}, false},
		{[]int{-1}, false}, {nil, false}, {[]int{-1, 0, 0}, false}, {[]int{-1, 2}, false}, {[]int{-2, 0}, false}, {[]int{-1 << 63, 1 << 62}, false},
	} {
		ok, e := CheckTree(path, x.parent)
		want(t, "CheckTree", ok, e, x.ok, api.OK)
	}
}
