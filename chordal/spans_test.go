package chordal

import (
	"math/rand"
	"testing"

	"cubeb/api"
)

// slowAround asks whether a way leads from y to z far from x, by growing ways.
func slowAround(g Graph, x, y, z int) bool {
	var walk func(at, seen int) bool
	walk = func(at, seen int) bool {
		if at == z {
			return true
		}
		for i := range g {
			if g.edge(at, i) && i != x && !g.edge(i, x) && seen>>i&1 == 0 && walk(i, seen|1<<i) {
				return true
			}
		}
		return false
	}
	return walk(y, 1<<y)
}

func TestApart(t *testing.T) {
	l, e := Apart(star)
	want(t, "Apart", l, e, [3]int{4, 5, 6}, api.OK)
	l, e = Apart(square)
	want(t, "Apart of a square", l, e, [3]int{}, api.ErrNone)
	ring := graph(6, [2]int{0, 1}, [2]int{1, 2}, [2]int{2, 3}, [2]int{3, 4}, [2]int{4, 5}, [2]int{5, 0})
	l, e = Apart(ring)
	want(t, "Apart of a ring", l, e, [3]int{0, 2, 4}, api.OK)
	try := func(g Graph) {
		var slow [3]int
		f := api.ErrNone
		for a := len(g) - 1; a >= 0; a-- {
			for b := len(g) - 1; b > a; b-- {
				for c := len(g) - 1; c > b; c-- {
					if !g.edge(a, b) && !g.edge(a, c) && !g.edge(b, c) && slowAround(g, a, b, c) && slowAround(g, b, a, c) && slowAround(g, c, a, b) {
						slow, f = [3]int{a, b, c}, api.OK
					}
				}
			}
		}
		l, e := Apart(g)
		want(t, "Apart", l, e, slow, f)
		tryModel(t, g, f == api.ErrNone)
	}
	r := rand.New(rand.NewSource(6))
	sample(func(r *rand.Rand, g Graph) { try(g) })
	for range 300 {
		try(someChordal(r, 7+r.Intn(3)))
	}
}

func tryModel(t *testing.T, g Graph, together bool) {
	t.Helper()
	l, e := Model(g)
	if _, f := Order(g); !together || f != api.OK {
		want(t, "Model", l, e, nil, api.ErrNone)
		return
	}
	ok, f := CheckModel(g, l)
	if e != api.OK || !ok || f != api.OK || len(l) != len(g) {
		t.Error("Model", g, l, e, ok, f)
	}
	for i := range l {
		for j := range i {
			if g.edge(i, j) == (l[i].To < l[j].From || l[j].To < l[i].From) {
				t.Error("Model", g, l)
			}
		}
	}
}

func TestModel(t *testing.T) {
	for _, g := range []Graph{square, star} {
		l, e := Model(g)
		want(t, "Model", l, e, nil, api.ErrNone)
	}
	r := rand.New(rand.NewSource(7))
	for range 300 {
		spans := make([]Span, 1+r.Intn(12))
		for i := range spans {
			spans[i].From = r.Intn(20)
			spans[i].To = spans[i].From + r.Intn(8)
		}
		g := make(Graph, len(spans))
		for i, s := range spans {
			for j, u := range spans {
				if i != j && max(s.From, u.From) <= min(s.To, u.To) {
					g[i] |= 1 << j
				}
			}
		}
		tryModel(t, g, true)
		ok, e := CheckModel(g, spans)
		want(t, "CheckModel", ok, e, true, api.OK)
	}
}

func TestCheckModel(t *testing.T) {
	for _, x := range []struct {
		l  []Span
		ok bool
	}{
		{[]Span{{0, 1}, {1, 2}, {2, 1000}}, true},
		{[]Span{{0, 1}, {1, 2}, {2, 1001}}, false},
		{[]Span{{-1, 1}, {1, 2}, {2, 3}}, false},
		{[]Span{{1, 0}, {0, 2}, {2, 3}}, false},
		{[]Span{{0, 1}, {1, 2}, {3, 4}}, false},
		{[]Span{{0, 2}, {1, 2}, {2, 3}}, false},
		{[]Span{{0, 1}, {1, 2}}, false},
		{[]Span{{0, 1}, {1, 2}, {2, 3}, {9, 9}}, false},
		{[]Span{{5, 5}, {0, 1000}, {6, 6}}, true},
		{[]Span{{-1 << 63, 1}, {1, 2}, {2, 1<<63 - 1}}, false},
		{nil, false},
	} {
		ok, e := CheckModel(path, x.l)
		want(t, "CheckModel", ok, e, x.ok, api.OK)
	}
}
