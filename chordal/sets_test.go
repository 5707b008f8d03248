package chordal

import (
	"math/rand"
	"slices"
	"testing"

	"cubeb/api"
)

func slowIs(g Graph, set int, edge bool) bool {
	for i := range g {
		for j := range i {
			if set>>i&1 == 1 && set>>j&1 == 1 && g.edge(i, j) != edge {
				return false
			}
		}
	}
	return true
}

func slowBest(g Graph, edge bool) int {
	best := 0
	for set := range 1 << len(g) {
		if slowIs(g, set, edge) && ones(set) > ones(best) {
			best = set
		}
	}
	return best
}

// slowColours returns the first colouring with the fewest colours.
func slowColours(g Graph) []int {
	var best []int
	fewest := 13
	l := make([]int, len(g))
	for {
		used := 0
		for _, c := range l {
			used |= 1 << c
		}
		if ok := slowIsColouring(g, l); ok && ones(used) < fewest {
			best, fewest = slices.Clone(l), ones(used)
		}
		i := len(l) - 1
		for i >= 0 && l[i] == len(g)-1 {
			l[i] = 0
			i--
		}
		if i < 0 {
			return best
		}
		l[i]++
	}
}

func slowIsColouring(g Graph, l []int) bool {
	for i := range g {
		for j := range i {
			if g.edge(i, j) && l[i] == l[j] {
				return false
			}
		}
	}
	return true
}

func TestClique(t *testing.T) {
	set, e := Clique(path)
	want(t, "Clique", set, e, 3, api.OK)
	set, e = Clique(make(Graph, 12))
	want(t, "Clique of one", set, e, 1, api.OK)
	set, e = Independent(path)
	want(t, "Independent", set, e, 5, api.OK)
	set, e = Independent(square)
	want(t, "Independent", set, e, 5, api.OK)
	set, e = Independent(make(Graph, 12))
	want(t, "Independent of all", set, e, 4095, api.OK)
	sample(func(r *rand.Rand, g Graph) {
		set, e := Clique(g)
		want(t, "Clique", set, e, slowBest(g, true), api.OK)
		set, e = Independent(g)
		want(t, "Independent", set, e, slowBest(g, false), api.OK)
	})
}

func TestColours(t *testing.T) {
	l, e := Colours(path)
	want(t, "Colours", l, e, []int{0, 1, 0}, api.OK)
	l, e = Colours(square)
	want(t, "not chordal", l, e, nil, api.ErrState)
	// In order, node 3 would take the colour 0 of node 0, and node 4 need a third one.
	l, e = Colours(graph(5, [2]int{0, 1}, [2]int{1, 4}, [2]int{4, 2}))
	want(t, "Colours", l, e, []int{0, 1, 1, 0, 0}, api.OK)
	sample(func(r *rand.Rand, g Graph) {
		if len(g) == 6 && r.Intn(6) > 0 {
			return
		}
		l, e := Colours(g)
		clique := ones(slowBest(g, true))
		slow := slowColours(g)
		if n, _, _ := CheckColours(g, slow); n < clique {
			t.Error("fewer colours than a clique has nodes", g, slow)
		}
		if _, f := Order(g); f != api.OK {
			want(t, "Colours", l, e, nil, api.ErrState)
			return
		}
		want(t, "Colours", l, e, slow, api.OK)
		n, ok, e := CheckColours(g, l)
		want(t, "CheckColours", n, e, clique, api.OK)
		want(t, "CheckColours", ok, e, true, api.OK)
	})
}

func TestCheckColours(t *testing.T) {
	for _, x := range []struct {
		l  []int
		n  int
		ok bool
	}{
		{[]int{0, 1, 0}, 2, true}, {[]int{11, 0, 5}, 3, true}, {[]int{11, 3, 11}, 2, true}, {[]int{0, 0, 1}, 0, false}, {[]int{1, 0, 0}, 0, false},
		{[]int{0, 12, 0}, 0, false}, {[]int{0, -1, 0}, 0, false}, {[]int{0, 1}, 0, false}, {[]int{0, 1, 0, 1}, 0, false}, {nil, 0, false}, {[]int{0, 1 << 62, 0}, 0, false},
	} {
		n, ok, e := CheckColours(path, x.l)
		want(t, "CheckColours", n, e, x.n, api.OK)
		want(t, "CheckColours", ok, e, x.ok, api.OK)
	}
	r := rand.New(rand.NewSource(3))
	for range 500 {
		g := someGraph(r, 5)
		l := []int{r.Intn(4), r.Intn(4), r.Intn(4), r.Intn(4), r.Intn(4)}
		_, ok, e := CheckColours(g, l)
		want(t, "CheckColours", ok, e, slowIsColouring(g, l), api.OK)
	}
}

func TestCover(t *testing.T) {
	l, e := Cover(square)
	want(t, "not chordal", l, e, nil, api.ErrState)
	r := rand.New(rand.NewSource(4))
	try := func(g Graph) {
		l, e := Cover(g)
		if _, f := Order(g); f != api.OK {
			want(t, "Cover", l, e, nil, api.ErrState)
			return
		}
		all := 0
		for _, c := range l {
			if c&all != 0 || !slowIs(g, c, true) || c == 0 {
				t.Error(g, l)
			}
			all |= c
		}
		set, _ := Independent(g)
		if e != api.OK || all != 1<<len(g)-1 || len(l) != ones(set) || !slices.IsSorted(l) {
			t.Error(g, l, e, set)
		}
	}
	sample(func(r *rand.Rand, g Graph) { try(g) })
	for range 300 {
		try(someChordal(r, 12))
	}
}

// someChordal lets each node be a neighbour of a clique of those before it, and mixes the nodes then.
func someChordal(r *rand.Rand, n int) Graph {
	var edges [][2]int
	g := graph(n)
	mix := r.Perm(n)
	for i := range n {
		clique := 0
		for _, j := range r.Perm(i) {
			if r.Intn(3) > 0 && clique&^g[j] == 0 {
				clique |= 1 << j
			}
		}
		for j := range i {
			if clique>>j&1 == 1 {
				g[i] |= 1 << j
				g[j] |= 1 << i
				edges = append(edges, [2]int{mix[i], mix[j]})
			}
		}
	}
	return graph(n, edges...)
}

func slowCliques(g Graph) []int {
	var l []int
	for set := 1; set < 1<<len(g); set++ {
		greatest := slowIs(g, set, true)
		for i := range g {
			if set>>i&1 == 0 && slowIs(g, set|1<<i, true) {
				greatest = false
			}
		}
		if greatest {
			l = append(l, set)
		}
	}
	return l
}

func TestCliques(t *testing.T) {
	l, e := Cliques(path)
	want(t, "Cliques", l, e, []int{3, 6}, api.OK)
	l, e = Cliques(square)
	want(t, "Cliques of a square", l, e, []int{3, 6, 9, 12}, api.OK)
	sample(func(r *rand.Rand, g Graph) {
		l, e := Cliques(g)
		want(t, "Cliques", l, e, slowCliques(g), api.OK)
	})
	// Four threes of nodes, each a neighbour of all but its own: 81 cliques.
	var edges [][2]int
	for i := range 12 {
		for j := range i {
			if i/3 != j/3 {
				edges = append(edges, [2]int{i, j})
			}
		}
	}
	l, _ = Cliques(graph(12, edges...))
	if len(l) != 81 {
		t.Error(len(l))
	}
}

func slowIsTree(g Graph, parent []int) bool {
	l := slowCliques(g)
	roots := 0
	for _, p := range parent {
		if p < -1 || p >= len(parent) {
			return false
		}
		if p == -1 {
			roots++
		}
	}
	// With one root there is one edge less than cliques, so connected is the same as without cycles.
	if len(parent) != len(l) || roots != 1 || !connected(parent, 1<<len(l)-1) {
		return false
	}
	for v := range g {
		marked := 0
		for i, c := range l {
			marked |= c >> v & 1 << i
		}
		if !connected(parent, marked) {
			return false
		}
	}
	return true
}

// connected reports whether the marked cliques are connected by parents among them.
func connected(parent []int, marked int) bool {
	reached := marked & -marked
	for range parent {
		for i, p := range parent {
			both := 1 << i
			if p >= 0 {
				both |= 1 << p
			}
			if both&reached != 0 && both&^marked == 0 {
				reached |= both
			}
		}
	}
	return reached == marked
}

func TestTree(t *testing.T) {
	l, e := Tree(square)
	want(t, "not chordal", l, e, nil, api.ErrState)
	ok, e := CheckTree(square, []int{-1, 0, 1, 2})
	want(t, "CheckTree", ok, e, false, api.ErrState)
	r := rand.New(rand.NewSource(5))
	for range 300 {
		g := someChordal(r, 1+r.Intn(12))
		l, e := Tree(g)
		ok, f := CheckTree(g, l)
		if e != api.OK || f != api.OK || !ok || !slowIsTree(g, l) || len(l) > len(g) {
			t.Error(g, l, e, ok, f)
		}
	}
	sample(func(r *rand.Rand, g Graph) {
		n := len(slowCliques(g))
		_, f := Order(g)
		for range 10 {
			parent := make([]int, n)
			for i := range parent {
				parent[i] = r.Intn(n+1) - 1
			}
			ok, e := CheckTree(g, parent)
			want(t, "CheckTree", ok, e, f == api.OK && slowIsTree(g, parent), errIf(f == api.OK, api.ErrState))
		}
	})
	for _, parent := range [][]int{nil, {-1}, {-1, -1}, {1, 0}, {-1, 1}, {-1, 2}, {0, -2}, {-1, 0, 0}, {-1, 1 << 62}} {
		ok, e := CheckTree(path, parent)
		want(t, "CheckTree", ok, e, false, api.OK)
	}
}
