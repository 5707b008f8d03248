package chordal

import (
	"math/bits"
	"math/rand"
	"reflect"
	"slices"
	"testing"

	"cubeb/api"
	"cubeb/match"
)

func want[T any](t *testing.T, what string, got T, e api.Errno, expect T, err api.Errno) {
	t.Helper()
	if e != err || !reflect.DeepEqual(got, expect) {
		t.Errorf("%s: got %v, %d; want %v, %d", what, got, e, expect, err)
	}
}

// errOf returns the error of a call, and -1 if another result of a call with an error is not empty.
func errOf(results ...any) api.Errno {
	last := len(results) - 1
	e := results[last].(api.Errno)
	for _, x := range results[:last] {
		v := reflect.ValueOf(x)
		if e != api.OK && !v.IsZero() && (v.Kind() != reflect.Slice || v.Len() > 0) {
			return -1
		}
	}
	return e
}

func graph(n int, edges ...[2]int) Graph {
	g := make(Graph, n)
	for _, x := range edges {
		g[x[0]] |= 1 << x[1]
		g[x[1]] |= 1 << x[0]
	}
	return g
}

var (
	path   = Graph{2, 5, 2}
	square = Graph{10, 5, 10, 5}
	star   = graph(7, [2]int{0, 1}, [2]int{0, 2}, [2]int{0, 3}, [2]int{1, 4}, [2]int{2, 5}, [2]int{3, 6})
)

func someGraph(r *rand.Rand, n int) Graph {
	var edges [][2]int
	dense := 1 + r.Intn(9)
	for i := range n {
		for j := range i {
			if r.Intn(10) < dense {
				edges = append(edges, [2]int{i, j})
			}
		}
	}
	return graph(n, edges...)
}

// sample calls f with all graphs of at most 5 nodes, and with some of more.
func sample(f func(r *rand.Rand, g Graph)) {
	r := rand.New(rand.NewSource(1))
	for n := 1; n <= 5; n++ {
		for x := range 1 << (n * (n - 1) / 2) {
			g := make(Graph, n)
			for i := range n {
				for j := range i {
					if x&1 == 1 {
						g[i] |= 1 << j
						g[j] |= 1 << i
					}
					x >>= 1
				}
			}
			f(r, g)
		}
	}
	for range 300 {
		f(r, someGraph(r, 6))
	}
}

func perms(n int) [][]int {
	if n == 0 {
		return [][]int{{}}
	}
	var all [][]int
	for _, p := range perms(n - 1) {
		for i := range n {
			all = append(all, slices.Insert(slices.Clone(p), i, n-1))
		}
	}
	slices.SortFunc(all, slices.Compare[[]int])
	return all
}

func (g Graph) edge(i, j int) bool { return g[i]>>j&1 == 1 }

func slowIsOrder(g Graph, l []int) bool {
	for i := range l {
		for j := i + 1; j < len(l); j++ {
			for k := j + 1; k < len(l); k++ {
				if g.edge(l[i], l[j]) && g.edge(l[i], l[k]) && !g.edge(l[j], l[k]) {
					return false
				}
			}
		}
	}
	return true
}

func errIf(ok bool, e api.Errno) api.Errno {
	if ok {
		return api.OK
	}
	return e
}

func TestArguments(t *testing.T) {
	for _, g := range []Graph{nil, {}, make(Graph, 13), {1}, {2}, {-1}, {2, 0}, {0, 1}, {2, 5, 2, 16}, {6, 1, 0}, {1 << 62, 0}, {-1 << 63}} {
		e1 := errOf(Order(g))
		e2 := errOf(CheckOrder(g, nil))
		e3 := errOf(Hole(g))
		e4 := errOf(CheckHole(g, nil))
		e5 := errOf(Clique(g))
		e6 := errOf(Colours(g))
		e7 := errOf(CheckColours(g, nil))
		e8 := errOf(Independent(g))
		e9 := errOf(Cover(g))
		e10 := errOf(Cliques(g))
		e11 := errOf(Tree(g))
		e12 := errOf(CheckTree(g, nil))
		e13 := errOf(Apart(g))
		e14 := errOf(Model(g))
		e15 := errOf(CheckModel(g, nil))
		for i, e := range []api.Errno{e1, e2, e3, e4, e5, e6, e7, e8, e9, e10, e11, e12, e13, e14, e15} {
			if e != api.ErrArg {
				t.Error(g, i, e)
			}
		}
	}
	l, e := Order(make(Graph, 12))
	want(t, "12 nodes", l, e, []int{0, 1, 2, 3, 4, 5, 6, 7, 8, 9, 10, 11}, api.OK)
}

func TestOrder(t *testing.T) {
	l, e := Order(path)
	want(t, "Order", l, e, []int{0, 1, 2}, api.OK)
	l, e = Order(square)
	want(t, "Order of a square", l, e, nil, api.ErrState)
	l, e = Order(graph(3, [2]int{0, 1}, [2]int{0, 2}))
	want(t, "Order", l, e, []int{1, 0, 2}, api.OK)
	all := [][][]int{nil, perms(1), perms(2), perms(3), perms(4), perms(5), perms(6)}
	sample(func(r *rand.Rand, g Graph) {
		l, e := Order(g)
		p := all[len(g)]
		i := slices.IndexFunc(p, func(l []int) bool { return slowIsOrder(g, l) })
		if i < 0 {
			want(t, "Order", l, e, nil, api.ErrState)
		} else {
			want(t, "Order", l, e, p[i], api.OK)
			ok, e := CheckOrder(g, l)
			want(t, "CheckOrder", ok, e, true, api.OK)
		}
		for range 5 {
			x := p[r.Intn(len(p))]
			ok, e := CheckOrder(g, x)
			want(t, "CheckOrder", ok, e, slowIsOrder(g, x), api.OK)
		}
		if i >= 0 && len(g) > 1 {
			_, e := Order(without(g, r.Intn(len(g))))
			want(t, "Order without a node", 0, e, 0, api.OK)
		}
	})
	for _, l := range [][]int{nil, {0, 1}, {0, 1, 1}, {0, 1, 3}, {0, -1, 2}, {0, 1, 2, 2}, {1, 0, 2}, {0, 1 << 62, 1}} {
		ok, e := CheckOrder(path, l)
		want(t, "CheckOrder", ok, e, false, api.OK)
	}
}

// without returns the graph without a node.
func without(g Graph, node int) Graph {
	var h Graph
	for i, near := range g {
		if i != node {
			h = append(h, near&(1<<node-1)|near>>(node+1)<<node)
		}
	}
	return h
}

func slowIsHole(g Graph, l []int) bool {
	n := len(l)
	if n < 4 || l[1] > l[n-1] || slices.Min(l) != l[0] {
		return false
	}
	for i := range l {
		for j := range i {
			next := j+1 == i || j == 0 && i == n-1
			if l[i] == l[j] || g.edge(l[i], l[j]) != next {
				return false
			}
		}
	}
	return true
}

func TestHole(t *testing.T) {
	l, e := Hole(square)
	want(t, "Hole", l, e, []int{0, 1, 2, 3}, api.OK)
	l, e = Hole(path)
	want(t, "no Hole", l, e, nil, api.ErrNone)
	ring := graph(12)
	for i := range ring {
		ring[i] = 1<<((i+1)%12) | 1<<((i+11)%12)
	}
	l, e = Hole(ring)
	want(t, "Hole of 12", l, e, []int{0, 1, 2, 3, 4, 5, 6, 7, 8, 9, 10, 11}, api.OK)
	five := graph(7, [2]int{0, 4}, [2]int{4, 1}, [2]int{1, 3}, [2]int{3, 2}, [2]int{2, 0})
	l, e = Hole(five)
	want(t, "the lesser neighbour comes next", l, e, []int{0, 2, 3, 1, 4}, api.OK)
	both := graph(9, [2]int{0, 4}, [2]int{4, 1}, [2]int{1, 3}, [2]int{3, 2}, [2]int{2, 0}, [2]int{5, 6}, [2]int{6, 7}, [2]int{7, 8}, [2]int{8, 5})
	l, e = Hole(both)
	want(t, "the fewest nodes", l, e, []int{5, 6, 7, 8}, api.OK)
	var rows [][]int
	for size := 4; size <= 6; size++ {
		rows = append(rows, tuples(size)...)
	}
	sample(func(r *rand.Rand, g Graph) {
		if len(g) == 6 && r.Intn(6) > 0 {
			return
		}
		l, e := Hole(g)
		i := slices.IndexFunc(rows, func(l []int) bool { return slices.Max(l) < len(g) && slowIsHole(g, l) })
		if i < 0 {
			want(t, "Hole", l, e, nil, api.ErrNone)
		} else {
			want(t, "Hole", l, e, rows[i], api.OK)
		}
		if _, f := Order(g); (e == api.OK) == (f == api.OK) {
			t.Error("just one is OK", g, e, f)
		}
		for range 20 {
			x := rows[r.Intn(len(rows))]
			ok, e := CheckHole(g, x)
			want(t, "CheckHole", ok, e, slices.Max(x) < len(g) && slowIsHole(g, x), api.OK)
		}
		if i >= 0 {
			ok, e := CheckHole(g, l)
			want(t, "CheckHole", ok, e, true, api.OK)
		}
	})
	for _, l := range [][]int{nil, {0}, {0, 1, 2}, {0, 3, 2, 1}, {1, 2, 3, 0}, {0, 1, 2, 4}, {-1, 1, 2, 3}, {0, 1, 2, 3, 0}, {4, 1, 2, 3}, {0, 1, 2, 1 << 62}} {
		ok, e := CheckHole(square, l)
		want(t, "CheckHole", ok, e, false, api.OK)
	}
}

// tuples returns all slices of different nodes from 0 to 5, rising.
func tuples(size int) [][]int {
	if size == 0 {
		return [][]int{{}}
	}
	var all [][]int
	for _, l := range tuples(size - 1) {
		for i := range 6 {
			if !slices.Contains(l, i) {
				all = append(all, append(slices.Clone(l), i))
			}
		}
	}
	return all
}

func TestFromQuery(t *testing.T) {
	at := func(rel int, args ...int) match.Atom { return match.Atom{Rel: rel, Args: args} }
	triangle := match.Query{Body: []match.Atom{at(0, 0, 1), at(0, 1, 2), at(0, 2, 0)}}
	g, e := FromQuery(triangle)
	want(t, "FromQuery", g, e, Graph{6, 5, 3}, api.OK)
	g, e = FromQuery(match.Query{Body: []match.Atom{at(0, 7, 2), at(0, 2, -1, 4), at(1, 4, 4)}})
	want(t, "numbered by what occurs", g, e, Graph{6, 1, 1}, api.OK)
	g, e = FromQuery(match.Query{Body: []match.Atom{at(0, -1)}})
	want(t, "no variables", g, e, nil, api.ErrArg)
	g, e = FromQuery(match.Query{})
	want(t, "no query", g, e, nil, api.ErrArg)
	r := rand.New(rand.NewSource(2))
	for range 2000 {
		var q match.Query
		var sets []int
		for range 1 + r.Intn(5) {
			a := at(0)
			set := 0
			for range 1 + r.Intn(3) {
				v := r.Intn(5)
				a.Args = append(a.Args, v)
				set |= 1 << v
			}
			q.Body = append(q.Body, a)
			sets = append(sets, set)
		}
		g, e := FromQuery(q)
		if e != api.OK {
			t.Fatal(q, e)
		}
		var vars []int
		for v := range 8 {
			if slices.ContainsFunc(sets, func(s int) bool { return s>>v&1 == 1 }) {
				vars = append(vars, v)
			}
		}
		_, f := Order(g)
		acyclic := f == api.OK
		cliques, _ := Cliques(g)
		for _, c := range cliques {
			set := 0
			for i, v := range vars {
				set |= c >> i & 1 << v
			}
			acyclic = acyclic && slices.ContainsFunc(sets, func(s int) bool { return s&set == set })
		}
		if rest, _ := match.Rest(q); acyclic != (rest == 0) {
			t.Error(q, g, rest)
		}
	}
}

func ones(set int) int { return bits.OnesCount(uint(set)) }
