package match

import (
	"math/rand"
	"reflect"
	"slices"
	"testing"

	"cubeb/api"
)

// slowHoms tries all terms for all variables, in order.
func slowHoms(p, q Query) [][]int {
	var all [][]int
	var try func(h []int)
	try = func(h []int) {
		if len(h) < api.MaxVars {
			if p.variables()>>len(h)&1 == 0 {
				try(append(h, 99))
				return
			}
			for x := -3; x < 4; x++ {
				try(append(h, x))
			}
			return
		}
		if slowIsHom(p, q, h) {
			all = append(all, slices.Clone(h))
		}
	}
	try(nil)
	return all
}

func slowIsHom(p, q Query, h []int) bool {
	for i, v := range p.Head {
		if h[v] != q.Head[i] {
			return false
		}
	}
	for _, a := range p.Body {
		b := at(a.Rel)
		for _, x := range a.Args {
			if x >= 0 {
				x = h[x]
			}
			b.Args = append(b.Args, x)
		}
		if !slices.ContainsFunc(q.Body, func(c Atom) bool { return reflect.DeepEqual(b, c) }) {
			return false
		}
	}
	return true
}

func pairs(f func(r *rand.Rand, p, q Query)) {
	r := rand.New(rand.NewSource(3))
	for range 1500 {
		p, q := someQuery(r, 4), someQuery(r, 3)
		n := min(len(p.Head), len(q.Head))
		p.Head, q.Head = p.Head[:n], q.Head[:n]
		f(r, p, q)
	}
}

func TestHom(t *testing.T) {
	p := query([]int{0}, at(0, 0, 1), at(0, 0, 2))
	core := query([]int{0}, at(0, 0, 1))
	h, e := Hom(p, core)
	want(t, "Hom", h, e, []int{0, 1, 1, 99, 99, 99, 99, 99}, api.OK)
	h, e = Hom(query(nil, at(0, 0, 1)), query(nil, at(0, 2, 3), at(0, -1, 5), at(0, -9, 7)))
	want(t, "constants come before variables, -9 first", h, e, []int{-9, 7, 99, 99, 99, 99, 99, 99}, api.OK)
	h, e = Hom(query(nil, at(0, -2)), query(nil, at(0, 0)))
	want(t, "constants stay", h, e, nil, api.ErrNone)
	h, e = Hom(query([]int{0}, at(0, 0)), query([]int{7}, at(0, -1), at(0, 7)))
	want(t, "Heads", h, e, []int{7, 99, 99, 99, 99, 99, 99, 99}, api.OK)
	h, e = Hom(query([]int{0, 0}, at(0, 0)), query([]int{1, 2}, at(0, 1), at(0, 2)))
	want(t, "one variable for two", h, e, nil, api.ErrNone)
	pairs(func(r *rand.Rand, p, q Query) {
		h, e := Hom(p, q)
		slow := slowHoms(p, q)
		if len(slow) == 0 {
			want(t, "Hom", h, e, nil, api.ErrNone)
			return
		}
		want(t, "Hom", h, e, slices.MinFunc(slow, slices.Compare[[]int]), api.OK)
	})
}

func TestCheckHom(t *testing.T) {
	p := query([]int{0}, at(0, 0, 1), at(1, -2, 3))
	q := query([]int{4}, at(0, 4, -1), at(1, -2, 4))
	for _, x := range []struct {
		h  []int
		ok bool
	}{
		{[]int{4, -1, 99, 4, 99, 99, 99, 99}, true},
		{[]int{4, -1, 99, 4, 99, 99, 99}, false},
		{[]int{4, -1, 99, 4, 99, 99, 99, 99, 99}, false},
		{[]int{4, -1, 0, 4, 99, 99, 99, 99}, false},
		{[]int{4, 99, 99, 4, 99, 99, 99, 99}, false},
		{[]int{4, -1, 99, -2, 99, 99, 99, 99}, false},
		{[]int{5, -1, 99, 4, 99, 99, 99, 99}, false},
		{[]int{4, 1 << 40, 99, 4, 99, 99, 99, 99}, false},
		{nil, false},
	} {
		ok, e := CheckHom(p, q, x.h)
		want(t, "CheckHom", ok, e, x.ok, api.OK)
	}
	ok, e := CheckHom(query([]int{0}, at(0, 0)), query([]int{1}, at(0, 1), at(0, 2)), []int{2, 99, 99, 99, 99, 99, 99, 99})
	want(t, "another Head", ok, e, false, api.OK)
	pairs(func(r *rand.Rand, p, q Query) {
		for _, h := range slowHoms(p, q) {
			ok, e := CheckHom(p, q, h)
			want(t, "CheckHom", ok, e, true, api.OK)
		}
		h := make([]int, 8)
		for v := range h {
			h[v] = r.Intn(7) - 3
			if p.variables()>>v&1 == 0 {
				h[v] = 99
			}
		}
		ok, e := CheckHom(p, q, h)
		want(t, "CheckHom", ok, e, slowIsHom(p, q, h), api.OK)
	})
}

func TestContained(t *testing.T) {
	ok, e := Contained(triangle, query(nil, at(0, 0, 1)))
	want(t, "Contained", ok, e, true, api.OK)
	ok, e = Contained(query(nil, at(0, 0, 1)), triangle)
	want(t, "not Contained", ok, e, false, api.OK)
	pairs(func(r *rand.Rand, p, q Query) {
		ok, e := Contained(p, q)
		want(t, "Contained", ok, e, len(slowHoms(q, p)) > 0, api.OK)
		facts, head, _ := Freeze(p)
		results, _ := Results(q, facts)
		if ok != slices.ContainsFunc(results, func(x []int) bool { return slices.Equal(x, head) }) {
			t.Error("Freeze says something else", p, q)
		}
		some := someFacts(r)
		for _, x := range slowResults(p, some) {
			if ok && !slices.ContainsFunc(slowResults(q, some), func(y []int) bool { return slices.Equal(x, y) }) {
				t.Error("not contained in", some, p, q)
			}
		}
	})
}

func TestFreeze(t *testing.T) {
	facts, head, e := Freeze(query([]int{0}, at(0, 0, -3)))
	want(t, "facts", facts, e, []api.Fact{fa(0, 10, 3)}, api.OK)
	want(t, "head", head, e, []int{10}, api.OK)
	facts, head, e = Freeze(query([]int{7, 7}, at(3, 7), at(3, 7)))
	want(t, "facts", facts, e, []api.Fact{fa(3, 17), fa(3, 17)}, api.OK)
	want(t, "head", head, e, []int{17, 17}, api.OK)
}

// slowCore tries all sets of atoms by the definition.
func slowCore(q Query) []int {
	var best []int
	for set := 1; set < 1<<len(q.Body); set++ {
		part := Query{Head: q.Head}
		var l []int
		for i, a := range q.Body {
			if set>>i&1 == 1 {
				l = append(l, i)
				part.Body = append(part.Body, a)
			}
		}
		a, e1 := Contained(q, part)
		b, e2 := Contained(part, q)
		equal := a && b && e1 == api.OK && e2 == api.OK
		if equal && (best == nil || len(l) < len(best) || len(l) == len(best) && slices.Compare(l, best) < 0) {
			best = l
		}
	}
	return best
}

func TestCore(t *testing.T) {
	l, e := Core(query([]int{0}, at(0, 0, 1), at(0, 0, 2)))
	want(t, "Core", l, e, []int{0}, api.OK)
	l, e = Core(triangle)
	want(t, "Core of a triangle", l, e, []int{0, 1, 2}, api.OK)
	l, e = Core(query(nil, at(0, 0, 1), at(0, 1, 2), at(0, 2, 2), at(0, 3, 3)))
	want(t, "Core of loops", l, e, []int{2}, api.OK)
	l, e = Core(query([]int{1}, at(0, 0), at(0, 1)))
	want(t, "Core with the Head", l, e, []int{1}, api.OK)
	l, e = Core(query(nil, at(0, 0), at(0, 1), at(1, 1), at(1, 0)))
	want(t, "0 3 comes before 1 2", l, e, []int{0, 3}, api.OK)
	sample(func(r *rand.Rand, q Query, facts []api.Fact) {
		l, e := Core(q)
		want(t, "Core", l, e, slowCore(q), api.OK)
		part := Query{Head: q.Head}
		var all []int
		for i, x := range l {
			part.Body = append(part.Body, q.Body[x])
			all = append(all, i)
		}
		want(t, "Results of the core", slowResults(part, facts), e, slowResults(q, facts), api.OK)
		again, e := Core(part)
		want(t, "Core of the core", again, e, all, api.OK)
	})
}
