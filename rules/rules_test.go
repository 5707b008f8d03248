package rules

import (
	"maps"
	"math/rand"
	"reflect"
	"slices"
	"testing"

	"cubeb/api"
	"cubeb/match"
)

func at(rel int, args ...int) match.Atom { return match.Atom{Rel: rel, Args: args} }

func fa(rel int, args ...int) api.Fact { return api.Fact{Rel: rel, Args: args} }

func is(rel int, args ...int) Lit { return Lit{false, at(rel, args...)} }

func not(rel int, args ...int) Lit { return Lit{true, at(rel, args...)} }

func rule(head match.Atom, body ...Lit) Rule { return Rule{head, body} }

var (
	reach = []Rule{rule(at(1, 0, 1), is(0, 0, 1)), rule(at(1, 0, 2), is(0, 0, 1), is(1, 1, 2))}
	steps = []api.Fact{fa(0, 1, 2), fa(0, 2, 3)}
	loop  = []Rule{rule(at(1, 0), is(0, 0), not(2, 0)), rule(at(2, 0), is(0, 0), not(1, 0))}
)

func want[T any](t *testing.T, what string, got T, e api.Errno, expect T, err api.Errno) {
	t.Helper()
	if e != err || !reflect.DeepEqual(got, expect) {
		t.Errorf("%s: got %v, %d; want %v, %d", what, got, e, expect, err)
	}
}

// errOf returns the error of a call, and -1 if another result of a call with an error is not empty.
func errOf(results ...any) api.Errno {
	last := len(results) - 1
	e := results[last].(api.Errno)
	for _, x := range results[:last] {
		v := reflect.ValueOf(x)
		if e != api.OK && !v.IsZero() && (v.Kind() != reflect.Slice || v.Len() > 0) {
			return -1
		}
	}
	return e
}

// arity is the number of Args that the samples give a Rel.
func arity(rel int) int { return 1 + rel%2 }

func someAtom(r *rand.Rand, terms []int) match.Atom {
	a := at(r.Intn(5))
	for range arity(a.Rel) {
		a.Args = append(a.Args, terms[r.Intn(len(terms))])
	}
	return a
}

// someRules returns safe rules; one Lit in so many has Not, none if it is 0.
func someRules(r *rand.Rand, nots int) []Rule {
	var l []Rule
	for len(l) < 1+r.Intn(6) {
		x := rule(someAtom(r, []int{0, 1, 2, -1, -2}))
		for range r.Intn(4) {
			lit := Lit{nots > 0 && r.Intn(nots) == 0, someAtom(r, []int{0, 1, 2, 7, -3})}
			x.Body = append(x.Body, lit)
		}
		if valid([]Rule{x}, nil) {
			l = append(l, x)
		}
	}
	return l
}

func someFacts(r *rand.Rand) []api.Fact {
	l := make([]api.Fact, r.Intn(7))
	for i := range l {
		l[i].Rel = r.Intn(5)
		for range arity(l[i].Rel) {
			l[i].Args = append(l[i].Args, 1+r.Intn(4))
		}
	}
	return l
}

func sample(nots int, f func(r *rand.Rand, l []Rule, facts []api.Fact)) {
	r := rand.New(rand.NewSource(int64(nots)))
	for range 300 {
		f(r, someRules(r, nots), someFacts(r))
	}
}

// layered calls f with rules that have strata: a Lit with Not has a Rel that is less than the Head's.
func layered(f func(r *rand.Rand, l []Rule, facts []api.Fact)) {
	r := rand.New(rand.NewSource(11))
	for range 300 {
		var l []Rule
		for len(l) < 2+r.Intn(7) {
			x := rule(someAtom(r, []int{0, 1, 2, 0, 1, -1}))
			for range 1 + r.Intn(3) {
				lit := Lit{r.Intn(3) == 0, someAtom(r, []int{0, 1, 2, 0, 1, 7})}
				if lit.Atom.Rel < x.Head.Rel || lit.Atom.Rel == x.Head.Rel && !lit.Not {
					x.Body = append(x.Body, lit)
				}
			}
			if valid([]Rule{x}, nil) && len(x.Body) > 0 {
				l = append(l, x)
			}
		}
		var facts []api.Fact
		for range 2 + r.Intn(8) {
			g := fa(r.Intn(3))
			for range arity(g.Rel) {
				g.Args = append(g.Args, 1+r.Intn(3))
			}
			facts = append(facts, g)
		}
		f(r, l, facts)
	}
}

type slowInstance struct {
	rule, head int
	need, deny []int
}

// slowInstances gives the variables 0, 1, 2 and 7 of each rule all numbers.
func slowInstances(l []Rule) []slowInstance {
	var all []slowInstance
	for i, r := range l {
		seen := map[binding]bool{}
		for x := range 6 * 6 * 6 * 6 {
			var b binding
			for _, v := range []int{0, 1, 2, 7} {
				if slices.ContainsFunc(r.Body, func(y Lit) bool { return slices.Contains(y.Atom.Args, v) }) {
					b[v] = 1 + x%6
				}
				x /= 6
			}
			if seen[b] {
				continue
			}
			seen[b] = true
			in := slowInstance{rule: i, head: b.code(r.Head)}
			for _, y := range r.Body {
				if y.Not {
					in.deny = append(in.deny, b.code(y.Atom))
				} else {
					in.need = append(in.need, b.code(y.Atom))
				}
			}
			all = append(all, in)
		}
	}
	return all
}

// slowConsequences goes through all instances until nothing changes.
func slowConsequences(all []slowInstance, given, decided factSet) factSet {
	got := maps.Clone(given)
	for changed := true; changed; {
		changed = false
		for _, in := range all {
			ok := !got[in.head]
			for _, c := range in.need {
				ok = ok && got[c]
			}
			for _, c := range in.deny {
				ok = ok && !decided[c]
			}
			if ok {
				got[in.head] = true
				changed = true
			}
		}
	}
	return got
}

func TestValid(t *testing.T) {
	good := rule(at(0, 0), is(1, 0, 7), is(1, 7, -6), not(5, 0))
	many := slices.Repeat([]Rule{good}, 11)
	tests := []struct {
		l     []Rule
		facts []api.Fact
	}{
		{many, nil}, {nil, slices.Repeat([]api.Fact{fa(0, 1)}, 21)},
		{[]Rule{rule(at(0, 0), is(1, 0), is(1, 0), is(1, 0), is(1, 0))}, nil},
		{[]Rule{rule(at(0, 0))}, nil}, {[]Rule{rule(at(0, 0), not(1, 0))}, nil}, {[]Rule{rule(at(0, 0), is(1, 0), not(2, 1))}, nil},
		{[]Rule{rule(at(-1, -1))}, nil}, {[]Rule{rule(at(6, -1))}, nil}, {[]Rule{rule(at(0))}, nil}, {[]Rule{rule(at(0, -1, -1, -1))}, nil},
		{[]Rule{rule(at(0, -7))}, nil}, {[]Rule{rule(at(0, 8), is(1, 8))}, nil}, {[]Rule{rule(at(0, -1<<63))}, nil}, {[]Rule{rule(at(0, -1), is(1<<62, 0))}, nil},
		{[]Rule{rule(at(0, -1), is(0, -1, -1))}, nil}, {[]Rule{rule(at(0, -1)), rule(at(0, -1, -1))}, nil},
		{[]Rule{good}, []api.Fact{fa(1, 1)}}, {nil, []api.Fact{fa(1, 1), fa(1, 1, 1)}},
		{nil, []api.Fact{fa(-1, 1)}}, {nil, []api.Fact{fa(6, 1)}}, {nil, []api.Fact{fa(0)}}, {nil, []api.Fact{fa(0, 1, 1, 1)}}, {nil, []api.Fact{fa(0, 0)}}, {nil, []api.Fact{fa(0, 7)}},
	}
	for i, x := range tests {
		e1 := errOf(Model(x.l, x.facts))
		e2 := errOf(Prove(x.l, x.facts, fa(0, 1)))
		e3 := errOf(Check(x.l, x.facts, Proof{}))
		e4 := errOf(Sources(x.l, x.facts, fa(0, 1)))
		e5 := errOf(Founded(x.l, x.facts))
		e6, e7 := api.ErrArg, api.ErrArg
		if x.facts == nil {
			e6 = errOf(Strata(x.l))
			e7 = errOf(Needed(x.l, 0))
		}
		for j, e := range []api.Errno{e1, e2, e3, e4, e5, e6, e7} {
			if e != api.ErrArg {
				t.Error(i, j, e)
			}
		}
	}
	if _, e := Model(many[:10], slices.Repeat([]api.Fact{fa(5, 6)}, 20)); e != api.OK {
		t.Error("10 rules and 20 facts are allowed", e)
	}
}

func TestStrata(t *testing.T) {
	s, e := Strata([]Rule{rule(at(2, 0), is(0, 0), not(1, 0))})
	want(t, "Strata", s, e, []int{0, 0, 1, 0, 0, 0}, api.OK)
	s, e = Strata(loop)
	want(t, "a loop of two", s, e, nil, api.ErrLoop)
	s, e = Strata([]Rule{rule(at(1, 0), is(0, 0), not(1, 0))})
	want(t, "a loop of one", s, e, nil, api.ErrLoop)
	s, e = Strata(reach)
	want(t, "a cycle without Not", s, e, []int{0, 0, 0, 0, 0, 0}, api.OK)
	var ladder []Rule
	for a := range 5 {
		ladder = append(ladder, rule(at(a, -1), not(a+1, -1)))
	}
	s, e = Strata(ladder)
	want(t, "a ladder", s, e, []int{5, 4, 3, 2, 1, 0}, api.OK)
	s, e = Strata(append(ladder, rule(at(5, -1), is(0, -1))))
	want(t, "a ladder that is closed", s, e, nil, api.ErrLoop)
	s, e = Strata([]Rule{rule(at(0, -1), is(1, -1)), rule(at(1, -1), not(2, -1)), rule(at(1, -1), is(0, -1))})
	want(t, "a cycle over a Not", s, e, []int{1, 1, 0, 0, 0, 0}, api.OK)
	sample(3, func(r *rand.Rand, l []Rule, facts []api.Fact) {
		s, e := Strata(l)
		want(t, "Strata", s, e, slowStrata(l), map[bool]api.Errno{true: api.OK, false: api.ErrLoop}[slowStrata(l) != nil])
	})
}

// slowStrata finds the most negative uses on ways of at most 12 uses; the count of a loop goes on growing.
func slowStrata(l []Rule) []int {
	ways := func(length int) []int {
		most := make([]int, 6)
		for range length {
			next := slices.Clone(most)
			for _, r := range l {
				for _, x := range r.Body {
					n := most[x.Atom.Rel]
					if x.Not {
						n++
					}
					next[r.Head.Rel] = max(next[r.Head.Rel], n)
				}
			}
			most = next
		}
		return most
	}
	if !slices.Equal(ways(40), ways(80)) {
		return nil
	}
	return ways(40)
}

func TestModel(t *testing.T) {
	l, e := Model(reach, steps)
	want(t, "Model", l, e, []api.Fact{fa(0, 1, 2), fa(0, 2, 3), fa(1, 1, 2), fa(1, 1, 3), fa(1, 2, 3)}, api.OK)
	l, e = Model(loop, []api.Fact{fa(0, 1)})
	want(t, "no strata", l, e, nil, api.ErrLoop)
	l, e = Model(nil, []api.Fact{fa(3, 2), fa(0, 1), fa(3, 1), fa(0, 1)})
	want(t, "no rules", l, e, []api.Fact{fa(0, 1), fa(3, 1), fa(3, 2)}, api.OK)
	l, e = Model([]Rule{rule(at(0, -1, -2)), rule(at(2, 0), is(0, 0, 1), not(1, 0)), rule(at(1, -2), not(3, -1))}, nil)
	want(t, "rules without facts", l, e, []api.Fact{fa(0, 1, 2), fa(1, 2), fa(2, 1)}, api.OK)
	l, e = Model([]Rule{rule(at(0, 0, 0), is(1, 0))}, []api.Fact{fa(0, 4, 5), fa(1, 6)})
	want(t, "given facts of a Head's Rel", l, e, []api.Fact{fa(0, 4, 5), fa(0, 6, 6), fa(1, 6)}, api.OK)
	l, e = Model([]Rule{rule(at(1, 0), is(0, 0)), rule(at(2, 0), is(0, 0), not(1, 0)), rule(at(3, 0), is(0, 0), not(2, 0))}, []api.Fact{fa(0, 1)})
	want(t, "three strata", l, e, []api.Fact{fa(0, 1), fa(1, 1), fa(3, 1)}, api.OK)
	tryModel := func(r *rand.Rand, l []Rule, facts []api.Fact) {
		m, e := Model(l, facts)
		s := slowStrata(l)
		if s == nil {
			want(t, "Model", m, e, nil, api.ErrLoop)
			return
		}
		all, there := slowInstances(l), setOf(facts)
		for stratum := range 6 {
			var some []slowInstance
			for _, in := range all {
				if s[relOf(in.head)] == stratum {
					some = append(some, in)
				}
			}
			there = slowConsequences(some, there, there)
		}
		want(t, "Model", m, e, there.list(), api.OK)
		if closed := slowConsequences(all, there, there); len(closed) != len(there) {
			t.Error("not a model", l, facts, m)
		}
	}
	sample(4, tryModel)
	layered(tryModel)
	sample(0, func(r *rand.Rand, l []Rule, facts []api.Fact) {
		m, _ := Model(l, facts)
		more, _ := Model(l, append(someFacts(r), facts...))
		if len(setOf(m).minus(setOf(more))) > 0 {
			t.Error("more facts gave fewer", l, facts)
		}
	})
}

func TestFounded(t *testing.T) {
	yes, open, e := Founded(loop, []api.Fact{fa(0, 1)})
	want(t, "true", yes, e, []api.Fact{fa(0, 1)}, api.OK)
	want(t, "open", open, e, []api.Fact{fa(1, 1), fa(2, 1)}, api.OK)
	yes, open, e = Founded([]Rule{rule(at(1, 0), is(0, 0), not(1, 0))}, []api.Fact{fa(0, 1)})
	want(t, "true", yes, e, []api.Fact{fa(0, 1)}, api.OK)
	want(t, "open", open, e, []api.Fact{fa(1, 1)}, api.OK)
	// Won positions of a game: 3 is won by a move to 4, 1 and 2 move to each other alone.
	game := []Rule{rule(at(1, 0), is(0, 0, 1), not(1, 1))}
	yes, open, e = Founded(game, []api.Fact{fa(0, 1, 2), fa(0, 2, 1), fa(0, 3, 4)})
	want(t, "true", yes, e, []api.Fact{fa(0, 1, 2), fa(0, 2, 1), fa(0, 3, 4), fa(1, 3)}, api.OK)
	want(t, "open", open, e, []api.Fact{fa(1, 1), fa(1, 2)}, api.OK)
	tryFounded := func(r *rand.Rand, l []Rule, facts []api.Fact) {
		yes, open, e := Founded(l, facts)
		all, given := slowInstances(l), setOf(facts)
		sure, possible := factSet{}, factSet{}
		for range 30 {
			possible = slowConsequences(all, given, sure)
			sure = slowConsequences(all, given, possible)
		}
		possible = slowConsequences(all, given, sure)
		want(t, "true", yes, e, sure.list(), api.OK)
		want(t, "open", open, e, possible.minus(sure).list(), api.OK)
		if m, e := Model(l, facts); e == api.OK && (!reflect.DeepEqual(m, yes) || open != nil) {
			t.Error("Founded is not the Model", l, facts)
		}
		turn := r.Perm(6)
		yes2, open2, _ := Founded(turnRules(l, turn), turnFacts(facts, turn))
		want(t, "true, permuted", setOf(yes2).list(), e, setOf(turnFacts(yes, turn)).list(), api.OK)
		want(t, "open, permuted", setOf(open2).list(), e, setOf(turnFacts(open, turn)).list(), api.OK)
	}
	sample(2, tryFounded)
	layered(tryFounded)
}

func turnAtom(a match.Atom, turn []int) match.Atom {
	b := at(a.Rel)
	for _, x := range a.Args {
		if x < 0 {
			x = -1 - turn[-x-1]
		}
		b.Args = append(b.Args, x)
	}
	return b
}

func turnRules(l []Rule, turn []int) []Rule {
	var m []Rule
	for _, r := range l {
		x := rule(turnAtom(r.Head, turn))
		for _, y := range r.Body {
			x.Body = append(x.Body, Lit{y.Not, turnAtom(y.Atom, turn)})
		}
		m = append(m, x)
	}
	return m
}

func turnFacts(l []api.Fact, turn []int) []api.Fact {
	var m []api.Fact
	for _, f := range l {
		g := fa(f.Rel)
		for _, x := range f.Args {
			g.Args = append(g.Args, 1+turn[x-1])
		}
		m = append(m, g)
	}
	return m
}

func TestSources(t *testing.T) {
	l, e := Sources(reach, steps, fa(1, 1, 3))
	want(t, "Sources", l, e, []int{3}, api.OK)
	l, e = Sources(reach, append(steps, fa(0, 1, 2)), fa(1, 1, 2))
	want(t, "a fact twice", l, e, []int{1, 4}, api.OK)
	l, e = Sources(reach, steps, fa(1, 3, 1))
	want(t, "not in the model", l, e, nil, api.OK)
	l, e = Sources(reach, steps, fa(1, 3))
	want(t, "another number of Args", l, e, nil, api.OK)
	l, e = Sources([]Rule{rule(at(2, -1))}, []api.Fact{fa(2, 1)}, fa(2, 1))
	want(t, "from nothing", l, e, []int{0}, api.OK)
	many := slices.Repeat([]api.Fact{fa(0, 1, 1)}, 11)
	l, e = Sources(reach, many[:10], fa(1, 1, 1))
	want(t, "10 facts", l, e, []int{1, 2, 4, 8, 16, 32, 64, 128, 256, 512}, api.OK)
	l, e = Sources(reach, many, fa(1, 1, 1))
	want(t, "11 facts", l, e, nil, api.ErrSize)
	l, e = Sources(loop, slices.Repeat([]api.Fact{fa(0, 1)}, 11), fa(1, 1))
	want(t, "ErrArg before ErrSize", l, e, nil, api.ErrArg)
	for _, f := range []api.Fact{fa(-1, 1), fa(6, 1), fa(0), fa(0, 1, 1, 1), fa(0, 0), fa(0, 7), fa(0, 1, -1<<63)} {
		e1 := errOf(Sources(reach, steps, f))
		e2 := errOf(Prove(reach, steps, f))
		e3 := errOf(Prove(loop, nil, f))
		if e1 != api.ErrArg || e2 != api.ErrArg || e3 != api.ErrArg {
			t.Error(f, e1, e2, e3)
		}
	}
	trySources := func(r *rand.Rand, l []Rule, facts []api.Fact) {
		for i := range l {
			positive := rule(l[i].Head)
			for _, x := range l[i].Body {
				positive.Body = append(positive.Body, Lit{false, x.Atom})
			}
			l[i] = positive
		}
		all := slowInstances(l)
		m := slowConsequences(all, setOf(facts), factSet{}).list()
		if len(m) == 0 {
			return
		}
		f := m[r.Intn(len(m))]
		sources, e := Sources(l, facts, f)
		if e != api.OK || !slices.IsSorted(sources) {
			t.Error(l, facts, f, sources, e)
		}
		for set := range 1 << len(facts) {
			var some []api.Fact
			for i, g := range facts {
				if set>>i&1 == 1 {
					some = append(some, g)
				}
			}
			enough := slowConsequences(all, setOf(some), factSet{})[code(f)]
			inside := 0
			for _, s := range sources {
				if set&s == s {
					inside++
				}
			}
			if enough != (inside > 0) || slices.Contains(sources, set) && inside != 1 {
				t.Error(l, facts, f, sources, set)
			}
		}
	}
	sample(0, trySources)
	layered(trySources)
	// What is known of R1 2 and so of R2 2 changes when R3 2 is found at last.
	late := []Rule{rule(at(1, 0), is(0, 0)), rule(at(2, 0), is(1, 0)), rule(at(3, 0), is(4, 0)), rule(at(5, 0), is(3, 0)), rule(at(1, 0), is(5, 0))}
	l, e = Sources(late, []api.Fact{fa(0, 2), fa(4, 2)}, fa(2, 2))
	want(t, "a source that is found late", l, e, []int{1, 2}, api.OK)
	// A chain from 1 to 6 by ten steps, of which each may be the one or the other.
	var twice []api.Fact
	for i := range 5 {
		twice = append(twice, fa(0, i+1, i+2), fa(2, i+1, i+2))
	}
	either := []Rule{rule(at(1, 0, 1), is(0, 0, 1)), rule(at(1, 0, 1), is(2, 0, 1)), rule(at(3, 0, 1), is(1, 0, 1)), rule(at(3, 0, 2), is(3, 0, 1), is(1, 1, 2))}
	l, e = Sources(either, twice, fa(3, 1, 6))
	var expect []int
	for set := range 1 << 10 {
		ok := true
		for i := range 5 {
			step := set >> (2 * i) & 3
			ok = ok && (step == 1 || step == 2)
		}
		if ok {
			expect = append(expect, set)
		}
	}
	want(t, "ten facts", l, e, expect, api.OK)
}

func TestNeeded(t *testing.T) {
	l := append(slices.Clone(reach), rule(at(2, 0), is(3, 0), not(1, 0, 0)), rule(at(4, -1), is(2, 0)), rule(at(3, -1)))
	for _, x := range []struct {
		rel  int
		want []int
	}{{0, nil}, {1, []int{0, 1}}, {2, []int{0, 1, 2, 4}}, {3, []int{4}}, {4, []int{0, 1, 2, 3, 4}}, {5, nil}} {
		var expect []Rule
		for _, i := range x.want {
			expect = append(expect, l[i])
		}
		got, e := Needed(l, x.rel)
		if len(got) != len(expect) {
			t.Fatal(x, got)
		}
		for i := range got {
			if !reflect.DeepEqual(got[i].Head, expect[i].Head) || len(got[i].Body) != len(expect[i].Body) || e != api.OK {
				t.Error(x, got, e)
			}
		}
	}
	for _, rel := range []int{-1, 6, 1 << 62} {
		got, e := Needed(l, rel)
		want(t, "Needed", got, e, nil, api.ErrArg)
	}
	got, _ := Needed(reach, 1)
	got[0].Head.Args[0], got[1].Body[0].Atom.Args[0] = 5, 5
	if reach[0].Head.Args[0] != 0 || reach[1].Body[0].Atom.Args[0] != 0 {
		t.Error("the result shares memory with the rules")
	}
	tryNeeded := func(r *rand.Rand, l []Rule, facts []api.Fact) {
		m, e := Model(l, facts)
		for rel := range 6 {
			some, f := Needed(l, rel)
			n, g := Model(some, facts)
			if f != api.OK || e == api.OK && (g != api.OK || !reflect.DeepEqual(ofRel(m, rel), ofRel(n, rel))) {
				t.Error(l, facts, rel, some)
			}
		}
	}
	sample(4, tryNeeded)
	layered(tryNeeded)
}

func ofRel(l []api.Fact, rel int) []api.Fact {
	var m []api.Fact
	for _, f := range l {
		if f.Rel == rel {
			m = append(m, f)
		}
	}
	return m
}
