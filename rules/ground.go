package rules

import (
	"maps"
	"slices"

	"cubeb/api"
	"cubeb/match"
)

// A fact is kept as a number, its code; codes have the order of facts.
const codes = rels * (numbers + 1) * (numbers + 1)

func code(f api.Fact) int {
	c := f.Rel*(numbers+1) + f.Args[0]
	c *= numbers + 1
	if len(f.Args) == maxArgs {
		c += f.Args[1]
	}
	return c
}

func relOf(code int) int { return code / (numbers + 1) / (numbers + 1) }

func fact(code int) api.Fact {
	f := api.Fact{Rel: relOf(code), Args: []int{code / (numbers + 1) % (numbers + 1)}}
	if second := code % (numbers + 1); second != 0 {
		f.Args = append(f.Args, second)
	}
	return f
}

// factSet is a set of facts, by their codes.
type factSet map[int]bool

func setOf(l []api.Fact) factSet {
	s := factSet{}
	for _, f := range l {
		s[code(f)] = true
	}
	return s
}

func (s factSet) list() []api.Fact {
	var l []api.Fact
	for _, c := range slices.Sorted(maps.Keys(s)) {
		l = append(l, fact(c))
	}
	return l
}

// minus returns the facts of s that are not in t.
func (s factSet) minus(t factSet) factSet {
	rest := maps.Clone(s)
	for c := range t {
		delete(rest, c)
	}
	return rest
}

// binding has the number of each variable, and 0 for one that has none yet.
type binding [api.MaxVars]int

func (b binding) code(a match.Atom) int {
	f := api.Fact{Rel: a.Rel}
	for _, t := range a.Args {
		if isVariable(t) {
			t = -b[t]
		}
		f.Args = append(f.Args, -t)
	}
	return code(f)
}

// extend returns b with the variables of a given what f has at their places, if it agrees.
func (b binding) extend(a match.Atom, f api.Fact) (binding, bool) {
	if a.Rel != f.Rel || len(a.Args) != len(f.Args) {
		return b, false
	}
	for i, t := range a.Args {
		if isVariable(t) && b[t] == 0 {
			b[t] = f.Args[i]
		}
		if isVariable(t) && b[t] != f.Args[i] || t < 0 && -t != f.Args[i] {
			return b, false
		}
	}
	return b, true
}

// instance is a ground instance: need has the facts of the Lits without Not, in order, avoid those with Not.
type instance struct {
	rule, head  int
	need, avoid []int
}

// program has all ground instances that can count: those of which all Lits without Not can be derived, if Not hinders nothing.
type program struct {
	rules     []Rule
	instances []instance
	users     [codes][]int // the instances that need a fact, as often as they need it
	reached   factSet
	known     [rels][]int // what the joins of ground go through
	queue     []int
}

// ground makes the program of rules and given facts. Every fact is joined with those that came before it, so that each instance is made once.
func ground(l []Rule, given []api.Fact) *program {
	p := &program{rules: l, reached: factSet{}}
	for _, f := range given {
		p.reach(code(f))
	}
	for i, r := range l {
		if len(needs(r)) == 0 {
			p.add(i, binding{})
		}
	}
	for len(p.queue) > 0 {
		c := p.queue[0]
		p.queue = p.queue[1:]
		rel := relOf(c)
		p.known[rel] = append(p.known[rel], c)
		for i, r := range l {
			lits := needs(r)
			for place := range lits {
				p.join(i, lits, place, c, 0, binding{})
			}
		}
	}
	return p
}

func needs(r Rule) []match.Atom {
	var l []match.Atom
	for _, x := range r.Body {
		if !x.Not {
			l = append(l, x.Atom)
		}
	}
	return l
}

func (p *program) reach(c int) {
	if !p.reached[c] {
		p.reached[c] = true
		p.queue = append(p.queue, c)
	}
}

// join adds the instances of rule i in which the newest fact c stands at place, and at no place before it.
func (p *program) join(i int, lits []match.Atom, place, c, at int, b binding) {
	if at == len(lits) {
		p.add(i, b)
		return
	}
	for _, k := range p.known[lits[at].Rel] {
		if at < place && k == c || at == place && k != c {
			continue
		}
		if next, ok := b.extend(lits[at], fact(k)); ok {
			p.join(i, lits, place, c, at+1, next)
		}
	}
}

func (p *program) add(i int, b binding) {
	in := instance{rule: i, head: b.code(p.rules[i].Head)}
	for _, x := range p.rules[i].Body {
		c := b.code(x.Atom)
		if x.Not {
			in.avoid = append(in.avoid, c)
			continue
		}
		in.need = append(in.need, c)
		p.users[c] = append(p.users[c], len(p.instances))
	}
	p.instances = append(p.instances, in)
	p.reach(in.head)
}

// consequences returns what follows from the given facts by the rules that count, where the set decided says which facts of Lits with Not are there.
func (p *program) consequences(given, decided factSet, counts func(rule int) bool) factSet {
	got := factSet{}
	var queue []int
	get := func(c int) {
		if !got[c] {
			got[c] = true
			queue = append(queue, c)
		}
	}
	for c := range given {
		get(c)
	}
	missing := make([]int, len(p.instances))
	for i, in := range p.instances {
		missing[i] = len(in.need)
		if !counts(in.rule) || in.hindered(decided) {
			missing[i] = -1
		}
		if missing[i] == 0 {
			get(in.head)
		}
	}
	for len(queue) > 0 {
		c := queue[0]
		queue = queue[1:]
		for _, i := range p.users[c] {
			missing[i]--
			if missing[i] == 0 {
				get(p.instances[i].head)
			}
		}
	}
	return got
}

// hindered reports whether a fact that the instance avoids is there.
func (in instance) hindered(there factSet) bool {
	return slices.ContainsFunc(in.avoid, func(c int) bool { return there[c] })
}
