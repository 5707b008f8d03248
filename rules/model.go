package rules

import (
	"maps"

	"cubeb/api"
)

// Model returns all facts of the model.
func Model(l []Rule, facts []api.Fact) ([]api.Fact, api.Errno) {
	if !valid(l, facts) {
		return nil, api.ErrArg
	}
	s, ok := strata(l)
	if !ok {
		return nil, api.ErrLoop
	}
	return ground(l, facts).model(facts, s).list(), api.OK
}

// model makes the model stratum by stratum.
func (p *program) model(given []api.Fact, strata []int) factSet {
	there := setOf(given)
	for s := range rels {
		there = p.consequences(there, there, func(rule int) bool {
			return strata[p.rules[rule].Head.Rel] == s
		})
	}
	return there
}

// Founded returns the well-founded model.
func Founded(l []Rule, facts []api.Fact) (yes, open []api.Fact, e api.Errno) {
	if !valid(l, facts) {
		return nil, nil, api.ErrArg
	}
	p, given := ground(l, facts), setOf(facts)
	every := func(int) bool { return true }
	sure := setOf(nil)
	for {
		possible := p.consequences(given, sure, every)
		next := p.consequences(given, possible, every)
		if maps.Equal(next, sure) {
			return sure.list(), possible.minus(sure).list(), api.OK
		}
		sure = next
	}
}

const maxSources = 10

// family is a set of sets of given facts: bit s of it stands for the set s.
type family [1 << maxSources / 64]uint64

func (a *family) has(set int) bool { return a[set/64]>>(set%64)&1 == 1 }

// Sources returns the sources of a fact.
func Sources(l []Rule, facts []api.Fact, f api.Fact) ([]int, api.Errno) {
	if !valid(l, facts) || !validFact(f) || hasNot(l) {
		return nil, api.ErrArg
	}
	if len(facts) > maxSources {
		return nil, api.ErrSize
	}
	enough := families(ground(l, facts), facts)[code(f)]
	var sources []int
	for set := range 1 << len(facts) {
		if enough.has(set) && isLeast(&enough, set) {
			sources = append(sources, set)
		}
	}
	return sources, api.OK
}

func hasNot(l []Rule) bool {
	for _, r := range l {
		for _, x := range r.Body {
			if x.Not {
				return true
			}
		}
	}
	return false
}

// isLeast reports whether no set that has one element less is enough, so that none that has fewer is.
func isLeast(enough *family, set int) bool {
	for i := range maxSources {
		if set>>i&1 == 1 && enough.has(set&^(1<<i)) {
			return false
		}
	}
	return true
}

// families returns, for each fact, the sets that are enough for it.
func families(p *program, given []api.Fact) [codes]family {
	var enough [codes]family
	for i, f := range given {
		for set := range 1 << maxSources {
			if set>>i&1 == 1 {
				enough[code(f)][set/64] |= 1 << (set % 64)
			}
		}
	}
	for changed := true; changed; {
		changed = false
		for _, in := range p.instances {
			before := enough[in.head]
			for w := range before {
				all := ^uint64(0)
				for _, c := range in.need {
					all &= enough[c][w]
				}
				enough[in.head][w] |= all
			}
			changed = changed || enough[in.head] != before
		}
	}
	return enough
}
