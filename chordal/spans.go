package chordal

import (
	"slices"

	"cubeb/api"
)

const maxSpan = 1000

// Apart returns three nodes that are apart.
func Apart(g Graph) ([3]int, api.Errno) {
	if !g.valid() {
		return [3]int{}, api.ErrArg
	}
	for a := range g {
		for b := a + 1; b < len(g); b++ {
			for c := b + 1; c < len(g); c++ {
				if g.areApart(a, b, c) {
					return [3]int{a, b, c}, api.OK
				}
			}
		}
	}
	return [3]int{}, api.ErrNone
}

func (g Graph) areApart(a, b, c int) bool {
	around := func(x, y, z int) bool {
		return has(g.reach(y, g.all()&^(g[x]|1<<x)), z)
	}
	return g.isIndependent(1<<a|1<<b|1<<c) && around(a, b, c) && around(b, a, c) && around(c, a, b)
}

// reach returns the nodes to which ways lead from a node through nodes of a set.
func (g Graph) reach(from, through int) int {
	reached := 1 << from
	for range g {
		for i := range g {
			if has(reached, i) {
				reached |= g[i] & through
			}
		}
	}
	return reached
}

// Model returns a model.
func Model(g Graph) ([]Span, api.Errno) {
	if !g.valid() {
		return nil, api.ErrArg
	}
	if !g.isChordal() {
		return nil, api.ErrNone
	}
	row, ok := inRow(g.cliques())
	if !ok {
		return nil, api.ErrNone
	}
	model := make([]Span, len(g))
	for v := range g {
		at := func(clique int) bool { return has(clique, v) }
		model[v].From = slices.IndexFunc(row, at)
		for i, clique := range row {
			if at(clique) {
				model[v].To = i
			}
		}
	}
	return model, api.OK
}

// inRow returns the sets in an order in which those that have an element stand side by side, for all elements, and false if there is none. Whether a set may come next depends on which ones stand there, not on their order, so each choice of sets is tried once.
func inRow(sets []int) ([]int, bool) {
	dead := make([]bool, 1<<len(sets))
	var place func(placed int, row []int) ([]int, bool)
	place = func(placed int, row []int) ([]int, bool) {
		if len(row) == len(sets) {
			return row, true
		}
		if dead[placed] {
			return nil, false
		}
		for i, s := range sets {
			if has(placed, i) || !contains(s, shared(sets, placed)) {
				continue
			}
			if l, ok := place(placed|1<<i, append(slices.Clone(row), s)); ok {
				return l, true
			}
		}
		dead[placed] = true
		return nil, false
	}
	return place(0, nil)
}

// shared returns the elements that some of the placed sets have, and some of the others.
func shared(sets []int, placed int) int {
	in, out := 0, 0
	for i, s := range sets {
		if has(placed, i) {
			in |= s
		} else {
			out |= s
		}
	}
	return in & out
}

// CheckModel reports whether l is a model.
func CheckModel(g Graph, l []Span) (bool, api.Errno) {
	if !g.valid() {
		return false, api.ErrArg
	}
	if len(l) != len(g) {
		return false, api.OK
	}
	for i, s := range l {
		if s.From < 0 || s.From > s.To || s.To > maxSpan {
			return false, api.OK
		}
		for j, t := range l[:i] {
			if has(g[i], j) != (s.From <= t.To && t.From <= s.To) {
				return false, api.OK
			}
		}
	}
	return true, api.OK
}
