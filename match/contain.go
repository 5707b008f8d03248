package match

import (
	"slices"

	"cubeb/api"
)

const (
	noTerm = 99
	frozen = 10 // what is added to a variable to make it a number that is no constant
)

// freeze returns the facts that come from the atoms of q, if its variables are taken for numbers.
func freeze(q Query) []api.Fact {
	var v values
	for i := range v {
		v[i] = frozen + i
	}
	facts := make([]api.Fact, len(q.Body))
	for i, a := range q.Body {
		facts[i] = v.fact(a)
	}
	return facts
}

// thaw returns the term of which freeze made a number.
func thaw(number int) int {
	if number >= frozen {
		return number - frozen
	}
	return -number
}

// Freeze returns the facts and the result of a query itself.
func Freeze(q Query) ([]api.Fact, []int, api.Errno) {
	if !q.valid() {
		return nil, nil, api.ErrArg
	}
	head := make([]int, len(q.Head))
	for i, v := range q.Head {
		head[i] = frozen + v
	}
	return freeze(q), head, api.OK
}

func validPair(p, q Query) bool {
	return p.valid() && q.valid() && len(p.Head) == len(q.Head)
}

// Hom returns the first homomorphism.
func Hom(p, q Query) ([]int, api.Errno) {
	if !validPair(p, q) {
		return nil, api.ErrArg
	}
	h := hom(p, q)
	if h == nil {
		return nil, api.ErrNone
	}
	return h, api.OK
}

// hom returns the first homomorphism, or nil. The homomorphisms are the matches of p in the facts of q that give q's Head; atoms are so few that the matches are never too many.
func hom(p, q Query) []int {
	found, _ := matches(p.Body, freeze(q))
	var first []int
	for v := range found {
		h := terms(v)
		if agrees(h, p.Head, q.Head) && (first == nil || slices.Compare(h, first) < 0) {
			first = h
		}
	}
	return first
}

// terms writes a match in frozen facts as a homomorphism.
func terms(v values) []int {
	h := make([]int, len(v))
	for i, number := range v {
		h[i] = noTerm
		if number != 0 {
			h[i] = thaw(number)
		}
	}
	return h
}

// agrees reports whether h gives the variables of one Head those of the other.
func agrees(h, from, to []int) bool {
	for i, v := range from {
		if h[v] != to[i] {
			return false
		}
	}
	return true
}

// CheckHom reports whether h is a homomorphism.
func CheckHom(p, q Query, h []int) (bool, api.Errno) {
	if !validPair(p, q) {
		return false, api.ErrArg
	}
	if len(h) != api.MaxVars || !agrees(h, p.Head, q.Head) {
		return false, api.OK
	}
	for v, t := range h {
		if p.variables()>>v&1 == 0 && t != noTerm {
			return false, api.OK
		}
	}
	for _, a := range p.Body {
		if !hasImage(a, h, q.Body) {
			return false, api.OK
		}
	}
	return true, api.OK
}

// hasImage reports whether the atom that results from a by h is one of body.
func hasImage(a Atom, h []int, body []Atom) bool {
	image := slices.Clone(a.Args)
	for i, t := range a.Args {
		if isVariable(t) {
			image[i] = h[t]
		}
	}
	return slices.ContainsFunc(body, func(b Atom) bool {
		return b.Rel == a.Rel && slices.Equal(b.Args, image)
	})
}

// Contained reports whether p is contained in q.
func Contained(p, q Query) (bool, api.Errno) {
	if !validPair(p, q) {
		return false, api.ErrArg
	}
	return hom(q, p) != nil, api.OK
}

// Core returns the atoms of the core.
func Core(q Query) ([]int, api.Errno) {
	if !q.valid() {
		return nil, api.ErrArg
	}
	var core []int
	for set := 1; set < 1<<len(q.Body); set++ {
		l, part := choose(q, set)
		better := core == nil || len(l) < len(core) || len(l) == len(core) && slices.Compare(l, core) < 0
		// Fewer atoms never have fewer results, so one direction decides.
		if better && part.valid() && hom(q, part) != nil {
			core = l
		}
	}
	return core, api.OK
}

// choose returns the indices in a set, and the query of these atoms alone.
func choose(q Query, set int) ([]int, Query) {
	part := Query{Head: q.Head}
	var l []int
	for i, a := range q.Body {
		if set>>i&1 == 1 {
			l = append(l, i)
			part.Body = append(part.Body, a)
		}
	}
	return l, part
}
