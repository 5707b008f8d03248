package depend

import (
	"fmt"
	"math/rand"
	"testing"

	"cubeb/api"
)

func TestChase(t *testing.T) {
	rows, e := Chase(3, chain, []int{5, 6})
	want(t, "Chase", rows, e, [][]int{{0, 1, 0}, {2, 0, 0}}, api.OK)
	// Rows 1 and 2 are made equal in attribute 2, which stands in a third row besides.
	rows, e = Chase(3, []Dep{{1, 4}}, []int{3, 1, 6})
	want(t, "replaced by the lesser", rows, e, [][]int{{0, 0, 1}, {0, 2, 1}, {3, 0, 0}}, api.OK)
	rows, e = Chase(2, []Dep{{0, 1}, {0, 2}}, []int{0, 3, 0})
	want(t, "empty parts", rows, e, [][]int{{0, 0}, {0, 0}, {0, 0}}, api.OK)
	for _, parts := range [][]int{nil, {}, {3}, {6}, {3, 2}, {1, 2, 4, 1, 2, 4, 1, 2, 4}} {
		e1 := errOf(Chase(3, chain, parts))
		e2 := errOf(Lossless(3, chain, parts))
		if e1 != api.ErrArg || e2 != api.ErrArg {
			t.Error(parts, e1, e2)
		}
	}
	if _, e := Chase(3, chain, []int{1, 2, 4, 1, 2, 4, 1, 2}); e != api.OK {
		t.Error("8 parts are allowed", e)
	}
}

// joins reports whether rows are the join of their projections.
func joins(n int, rows [][]int, parts []int) bool {
	project := func(r []int, p int) string {
		s := ""
		for a, x := range r {
			if p>>a&1 == 1 {
				s += fmt.Sprint(x, " ")
			}
		}
		return s
	}
	have := map[string]bool{}
	seen := make([]map[string]bool, len(parts))
	for _, r := range rows {
		have[project(r, full(n))] = true
		for i, p := range parts {
			if seen[i] == nil {
				seen[i] = map[string]bool{}
			}
			seen[i][project(r, p)] = true
		}
	}
	row := make([]int, n)
	for x := range pow(10, n) {
		for a := range row {
			row[a] = x % 10
			x /= 10
		}
		all := true
		for i, p := range parts {
			all = all && seen[i][project(row, p)]
		}
		if all && !have[project(row, full(n))] {
			return false
		}
	}
	return true
}

func pow(b, e int) int {
	x := 1
	for range e {
		x *= b
	}
	return x
}

func TestLossless(t *testing.T) {
	for _, x := range []struct {
		parts []int
		ok    bool
	}{{[]int{6, 3}, true}, {[]int{5, 6}, false}, {[]int{7}, true}, {[]int{1, 2, 4}, false}} {
		ok, e := Lossless(3, chain, x.parts)
		want(t, "Lossless", ok, e, x.ok, api.OK)
	}
	r := rand.New(rand.NewSource(3))
	for range 300 {
		n := 2 + r.Intn(2)
		l := someDeps(r, n, r.Intn(3))
		parts := []int{r.Intn(1 << n), r.Intn(1 << n), r.Intn(1 << n)}
		if !validParts(n, parts) {
			continue
		}
		ok, _ := Lossless(n, l, parts)
		tableau, _ := Chase(n, l, parts)
		// The last tableau is the table that tells: the dependencies hold in it.
		if joins(n, tableau, parts) != ok {
			t.Error(n, l, parts, tableau, ok)
		}
		rows := someRows(r, n)
		for i := range rows {
			for a := range rows[i] {
				rows[i][a]++
			}
		}
		holds := true
		for _, d := range l {
			h, _ := Holds(n, rows, d)
			holds = holds && h
		}
		if ok && holds && !joins(n, rows, parts) {
			t.Error("lost something", n, l, parts, rows)
		}
	}
}

func TestViolation(t *testing.T) {
	d, e := Violation(3, chain, 7)
	want(t, "Violation", d, e, Dep{2, 4}, api.OK)
	d, e = Violation(3, []Dep{{0, 1}}, 3)
	want(t, "of the empty set", d, e, Dep{0, 1}, api.OK)
	d, e = Violation(3, chain, 5)
	want(t, "in normal form by what is left", d, e, Dep{}, api.ErrNone)
	d, e = Violation(3, chain, 0)
	want(t, "the empty set", d, e, Dep{}, api.ErrNone)
	// 1 to 2 and 2 to 4 give 1 to 4, which is seen in 13 although no dependency is a part of it.
	d, e = Violation(4, chain, 13)
	want(t, "of a projection", d, e, Dep{1, 4}, api.OK)
}

func TestDecompose(t *testing.T) {
	parts, e := Decompose(3, chain)
	want(t, "Decompose", parts, e, []int{6, 3}, api.OK)
	parts, e = Decompose(2, nil)
	want(t, "in normal form", parts, e, []int{3}, api.OK)
	sample(func(r *rand.Rand, n int, l []Dep) {
		parts, e := Decompose(n, l)
		want(t, "Decompose", parts, e, slowDecompose(n, l), api.OK)
		if len(parts) <= 8 {
			ok, f := Lossless(n, l, parts)
			want(t, "Decompose is lossless", ok, f, true, api.OK)
		}
		for _, p := range parts {
			d, e := Violation(n, l, p)
			want(t, "a part in normal form", d, e, Dep{}, api.ErrNone)
		}
	})
}

// slowDecompose splits the first set that is not in normal form, where it stands.
func slowDecompose(n int, l []Dep) []int {
	parts := []int{full(n)}
	for {
		split := false
		for i, p := range parts {
			if d, e := Violation(n, l, p); e == api.OK {
				var next []int
				next = append(next, parts[:i]...)
				next = append(next, d.From|d.To, p&^d.To)
				parts = append(next, parts[i+1:]...)
				split = true
				break
			}
		}
		if !split {
			return parts
		}
	}
}
