package rules

import (
	"slices"

	"cubeb/api"
)

const (
	maxNodes  = 500
	maxDepth  = 40
	givenRule = -1
)

// Prove returns a proof of a fact.
func Prove(l []Rule, facts []api.Fact, f api.Fact) (Proof, api.Errno) {
	if !valid(l, facts) || !validFact(f) {
		return Proof{}, api.ErrArg
	}
	s, ok := strata(l)
	if !ok {
		return Proof{}, api.ErrLoop
	}
	p := ground(l, facts)
	model := p.model(facts, s)
	if !model[code(f)] {
		return Proof{}, api.ErrNone
	}
	start := setOf(facts)
	levels := []level{newLevel()}
	for depth := range maxDepth {
		next := p.nextLevel(levels[depth], start, model)
		levels = append(levels, next)
		if next.nodes[code(f)] <= maxNodes {
			return p.build(levels, code(f)), api.OK
		}
	}
	return Proof{}, api.ErrSize
}

// level has, for each fact, how many nodes its least proof has among those that are at most as deep as the level, at most maxNodes + 1, and the instance with which that proof ends.
type level struct {
	nodes, by [codes]int
}

func newLevel() level {
	var v level
	for c := range codes {
		v.nodes[c] = maxNodes + 1
		v.by[c] = givenRule
	}
	return v
}

// nextLevel returns the level that is one deeper than below.
func (p *program) nextLevel(below level, start, model factSet) level {
	v := newLevel()
	for c := range start {
		v.nodes[c] = 1
	}
	for i, in := range p.instances {
		if in.hindered(model) {
			continue
		}
		nodes := 1
		for _, c := range in.need {
			nodes += below.nodes[c]
		}
		if nodes < v.nodes[in.head] {
			v.nodes[in.head] = nodes
			v.by[in.head] = i
		}
	}
	return v
}

// build returns the proof of a fact that the last level tells.
func (p *program) build(levels []level, c int) Proof {
	last := len(levels) - 1
	i := levels[last].by[c]
	if i == givenRule {
		return Proof{Rule: givenRule, Fact: fact(c)}
	}
	t := Proof{Rule: p.instances[i].rule, Fact: fact(c)}
	for _, need := range p.instances[i].need {
		t.Sub = append(t.Sub, p.build(levels[:last], need))
	}
	return t
}

// Check reports whether p is a proof.
func Check(l []Rule, facts []api.Fact, p Proof) (bool, api.Errno) {
	if !valid(l, facts) {
		return false, api.ErrArg
	}
	s, ok := strata(l)
	if !ok {
		return false, api.ErrLoop
	}
	left := maxNodes
	if !small(p, maxDepth, &left) {
		return false, api.OK
	}
	c := checker{l, facts, ground(l, facts).model(facts, s)}
	return c.proves(p), api.OK
}

// small reports whether p is at most so deep, and has at most as many nodes as are left.
func small(p Proof, depth int, left *int) bool {
	*left--
	if depth == 0 || *left < 0 {
		return false
	}
	for _, sub := range p.Sub {
		if !small(sub, depth-1, left) {
			return false
		}
	}
	return true
}

type checker struct {
	rules []Rule
	given []api.Fact
	model factSet
}

func (c checker) proves(p Proof) bool {
	if p.Rule == givenRule {
		isIt := func(f api.Fact) bool { return f.Rel == p.Fact.Rel && slices.Equal(f.Args, p.Fact.Args) }
		return len(p.Sub) == 0 && slices.ContainsFunc(c.given, isIt)
	}
	for _, sub := range p.Sub {
		if !c.proves(sub) {
			return false
		}
	}
	return p.Rule >= 0 && p.Rule < len(c.rules) && c.fits(p)
}

// fits reports whether the facts of p and of its Sub are those of a ground instance of its rule that nothing hinders.
func (c checker) fits(p Proof) bool {
	r := c.rules[p.Rule]
	lits := needs(r)
	if len(lits) != len(p.Sub) {
		return false
	}
	b, ok := binding{}, true
	for i, a := range lits {
		if b, ok = b.extend(a, p.Sub[i].Fact); !ok {
			return false
		}
	}
	// All variables have their numbers by now: the rule is safe.
	if _, ok = b.extend(r.Head, p.Fact); !ok {
		return false
	}
	for _, x := range r.Body {
		if x.Not && c.model[b.code(x.Atom)] {
			return false
		}
	}
	return true
}
