package chordal

import (
	"math/bits"
	"slices"

	"cubeb/api"
)

// best returns, of the sets of nodes for which a condition holds, the least one of those that have the most nodes.
func (g Graph) best(condition func(set int) bool) int {
	most := 0
	for set := range g.all() + 1 {
		if bits.OnesCount(uint(set)) > bits.OnesCount(uint(most)) && condition(set) {
			most = set
		}
	}
	return most
}

// Clique returns a greatest clique.
func Clique(g Graph) (int, api.Errno) {
	if !g.valid() {
		return 0, api.ErrArg
	}
	return g.best(g.isClique), api.OK
}

// Independent returns a greatest independent set.
func Independent(g Graph) (int, api.Errno) {
	if !g.valid() {
		return 0, api.ErrArg
	}
	return g.best(g.isIndependent), api.OK
}

// Colours returns the first best colouring.
func Colours(g Graph) ([]int, api.Errno) {
	if !g.valid() {
		return nil, api.ErrArg
	}
	if !g.isChordal() {
		return nil, api.ErrState
	}
	// A chordal graph needs no more colours than its greatest clique has nodes.
	return g.colours(nil, bits.OnesCount(uint(g.best(g.isClique)))), api.OK
}

// colours returns the first colouring with the colours below a number that begins with the given ones, or nil.
func (g Graph) colours(begun []int, number int) []int {
	i := len(begun)
	if i == len(g) {
		return slices.Clone(begun)
	}
	for c := range number {
		taken := func(j int) bool { return has(g[i], j) && begun[j] == c }
		if slices.ContainsFunc(upTo(i), taken) {
			continue
		}
		if l := g.colours(append(begun, c), number); l != nil {
			return l
		}
		if !slices.Contains(begun, c) {
			// The colours from c on are all new, so that none of them does better.
			return nil
		}
	}
	return nil
}

func upTo(n int) []int {
	l := make([]int, n)
	for i := range l {
		l[i] = i
	}
	return l
}

// CheckColours reports whether l is a colouring, and of how many colours.
func CheckColours(g Graph, l []int) (int, bool, api.Errno) {
	if !g.valid() {
		return 0, false, api.ErrArg
	}
	if len(l) != len(g) {
		return 0, false, api.OK
	}
	used := 0
	for i, c := range l {
		if c < 0 || c >= api.MaxNodes {
			return 0, false, api.OK
		}
		used |= 1 << c
		for j := range i {
			if has(g[i], j) && l[j] == c {
				return 0, false, api.OK
			}
		}
	}
	return bits.OnesCount(uint(used)), true, api.OK
}

// Cover returns as few cliques as have all nodes.
func Cover(g Graph) ([]int, api.Errno) {
	if !g.valid() {
		return nil, api.ErrArg
	}
	order, ok := g.order()
	if !ok {
		return nil, api.ErrState
	}
	// The nodes that begin a clique here are independent, so fewer cliques could not have them all.
	var cover []int
	left := g.all()
	for _, i := range order {
		if has(left, i) {
			clique := g[i]&left | 1<<i
			cover = append(cover, clique)
			left &^= clique
		}
	}
	slices.Sort(cover)
	return cover, api.OK
}

// Cliques returns all greatest cliques.
func Cliques(g Graph) ([]int, api.Errno) {
	if !g.valid() {
		return nil, api.ErrArg
	}
	return g.cliques(), api.OK
}

func (g Graph) cliques() []int {
	var l []int
	for set := 1; set <= g.all(); set++ {
		if g.isClique(set) && !g.isBelow(set) {
			l = append(l, set)
		}
	}
	return l
}

// isBelow reports whether a clique is part of a greater one.
func (g Graph) isBelow(clique int) bool {
	return slices.ContainsFunc(g, func(near int) bool { return contains(near, clique) })
}

// Tree returns the parents of a clique tree.
func Tree(g Graph) ([]int, api.Errno) {
	if !g.valid() {
		return nil, api.ErrArg
	}
	if !g.isChordal() {
		return nil, api.ErrState
	}
	return heaviest(g.cliques()), api.OK
}

// heaviest returns the parents of a tree of sets, begun with the first one, whose neighbours have as much in common as possible: of a chordal graph's cliques that is a clique tree.
func heaviest(sets []int) []int {
	parent := make([]int, len(sets))
	parent[0] = -1
	in := 1
	for range len(sets) - 1 {
		child, most := -1, -1
		for i := range sets {
			for j := range sets {
				common := bits.OnesCount(uint(sets[i] & sets[j]))
				if !has(in, i) && has(in, j) && common > most {
					child, most = i, common
					parent[i] = j
				}
			}
		}
		in |= 1 << child
	}
	return parent
}

// CheckTree reports whether parents are a clique tree.
func CheckTree(g Graph, parent []int) (bool, api.Errno) {
	if !g.valid() {
		return false, api.ErrArg
	}
	if !g.isChordal() {
		return false, api.ErrState
	}
	sets := g.cliques()
	if len(parent) != len(sets) || !isTree(parent) {
		return false, api.OK
	}
	for v := range g {
		// The cliques that have v are connected if just one of them has a parent without v.
		tops := 0
		for i, p := range parent {
			if has(sets[i], v) && (p == -1 || !has(sets[p], v)) {
				tops++
			}
		}
		if tops != 1 {
			return false, api.OK
		}
	}
	return true, api.OK
}

// isTree reports whether parents are without cycles, with one root.
func isTree(parent []int) bool {
	root := slices.Index(parent, -1)
	if root < 0 {
		return false
	}
	reached := 1 << root
	for range parent {
		for i, p := range parent {
			if p >= 0 && p < len(parent) && has(reached, p) {
				reached |= 1 << i
			}
		}
	}
	return reached == 1<<len(parent)-1
}
