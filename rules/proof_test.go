package rules

import (
	"math/rand"
	"reflect"
	"testing"

	"cubeb/api"
)

func leaf(f api.Fact) Proof { return Proof{Rule: -1, Fact: f} }

func measure(p Proof) (nodes, depth int) {
	nodes, depth = 1, 1
	for _, s := range p.Sub {
		n, d := measure(s)
		nodes += n
		depth = max(depth, d+1)
	}
	return nodes, depth
}

// slowProof returns the least depth and then the least number of nodes of a proof of f.
func slowProof(all []slowInstance, given, model factSet, f int) (nodes, depth int, found bool) {
	best := map[int]int{}
	for depth := 1; depth <= 40; depth++ {
		next := map[int]int{}
		for c := range given {
			next[c] = 1
		}
		for _, in := range all {
			n, ok := 1, true
			for _, c := range in.need {
				m, there := best[c]
				n += m
				ok = ok && there
			}
			for _, c := range in.deny {
				ok = ok && !model[c]
			}
			if old, there := next[in.head]; ok && n <= 500 && (!there || n < old) {
				next[in.head] = n
			}
		}
		best = next
		if n, there := best[f]; there {
			return n, depth, true
		}
	}
	return 0, 0, false
}

func TestProve(t *testing.T) {
	p, e := Prove(reach, steps, fa(1, 1, 3))
	want(t, "Prove", p, e, Proof{1, fa(1, 1, 3), []Proof{leaf(steps[0]), {0, fa(1, 2, 3), []Proof{leaf(steps[1])}}}}, api.OK)
	p, e = Prove(reach, steps, steps[1])
	want(t, "a given fact", p, e, leaf(steps[1]), api.OK)
	p, e = Prove([]Rule{rule(at(0, -1))}, []api.Fact{fa(0, 1)}, fa(0, 1))
	if n, d := measure(p); n != 1 || d != 1 || e != api.OK {
		t.Error(p, e)
	}
	p, e = Prove(reach, steps, fa(1, 3, 1))
	want(t, "not in the model", p, e, Proof{}, api.ErrNone)
	p, e = Prove(reach, steps, fa(1, 1))
	want(t, "another number of Args", p, e, Proof{}, api.ErrNone)
	p, e = Prove(loop, []api.Fact{fa(0, 1)}, fa(0, 1))
	want(t, "no strata", p, e, Proof{}, api.ErrLoop)
	tryProve := func(r *rand.Rand, l []Rule, facts []api.Fact) {
		m, e := Model(l, facts)
		if e != api.OK {
			return
		}
		all := slowInstances(l)
		for _, f := range m {
			p, e := Prove(l, facts, f)
			n, d := measure(p)
			wantN, wantD, found := slowProof(all, setOf(facts), setOf(m), code(f))
			if !found {
				want(t, "Prove", p, e, Proof{}, api.ErrSize)
				continue
			}
			ok, g := Check(l, facts, p)
			if n != wantN || d != wantD || !ok || e != api.OK || g != api.OK || !reflect.DeepEqual(p.Fact, f) {
				t.Error(l, facts, f, p, e)
			}
		}
	}
	sample(5, tryProve)
	layered(tryProve)
}

// TestProveWidth has proofs that double at each step: the fact R5 i needs the one before it twice.
func TestProveWidth(t *testing.T) {
	next := func(i int) Rule { return rule(at(5, -i-1), is(5, -i), is(5, -i)) }
	triple := func(rel, i int) Rule { return rule(at(rel, -i-1), is(rel, -i), is(rel, -i), is(rel, -i)) }
	l := []Rule{next(1), next(2), next(3), next(4), next(5)}
	p, e := Prove(l, []api.Fact{fa(5, 1)}, fa(5, 6))
	if n, d := measure(p); n != 63 || d != 6 || e != api.OK {
		t.Error(n, d, e)
	}
	l = []Rule{triple(5, 1), triple(5, 2), triple(5, 3), triple(5, 4), triple(5, 5)}
	p, e = Prove(l, []api.Fact{fa(5, 1)}, fa(5, 6))
	if n, d := measure(p); n != 364 || d != 6 || e != api.OK {
		t.Error(n, d, e)
	}
	l = append(l, rule(at(4, -1), is(5, -6), is(5, -6)), rule(at(3, -1), is(5, -6), is(5, -4), is(5, -5)))
	p, e = Prove(l, []api.Fact{fa(5, 1)}, fa(4, 1))
	want(t, "729 nodes", p, e, Proof{}, api.ErrSize)
	p, e = Prove(l, []api.Fact{fa(5, 1)}, fa(3, 1))
	want(t, "526 nodes", p, e, Proof{}, api.ErrSize)
	// 364 + 121 + 13 + 1 and one more are 500, and 501 are too many.
	l = append(l, rule(at(1, -5), is(5, -6), is(5, -5), is(5, -3)), rule(at(1, -4), is(1, -5)), rule(at(1, -3), is(1, -4)))
	p, e = Prove(l, []api.Fact{fa(5, 1)}, fa(1, 4))
	if n, d := measure(p); n != 500 || d != 8 || e != api.OK {
		t.Error(n, d, e)
	}
	p, e = Prove(l, []api.Fact{fa(5, 1)}, fa(1, 3))
	want(t, "501 nodes", p, e, Proof{}, api.ErrSize)
	l = l[:len(l)-3]
	// A longer way is taken where the short one is too large.
	l = append(l, rule(at(2, 0), is(1, 0)), rule(at(0, -1), is(2, -2)), rule(at(4, -1), is(0, -1)))
	p, e = Prove(l, []api.Fact{fa(5, 1), fa(1, 2)}, fa(4, 1))
	if n, d := measure(p); n != 4 || d != 4 || e != api.OK {
		t.Error(p, e)
	}
}

// TestProveDepth counts in pairs of digits from 1 1 on: the proof of each number has the one before it.
func TestProveDepth(t *testing.T) {
	l := []Rule{
		rule(at(2, 0, 2), is(2, 0, 1), is(1, 1, 2)),
		rule(at(2, 1, -1), is(2, 0, -6), is(1, 0, 1)),
	}
	facts := []api.Fact{fa(2, 1, 1), fa(1, 1, 2), fa(1, 2, 3), fa(1, 3, 4), fa(1, 4, 5), fa(1, 5, 6)}
	p, e := Prove(l, facts, fa(2, 6, 6))
	if n, d := measure(p); n != 71 || d != 36 || e != api.OK {
		t.Error(n, d, e)
	}
	deep := p
	for i := range 4 {
		l = append(l, rule(at(0, -i-2), is(0, -i-1)))
	}
	l = append(l, rule(at(0, -1), is(2, -6, -6)))
	for i := range 5 {
		f := fa(0, i+1)
		q, e := Prove(l, facts, f)
		deep = Proof{1 + i, f, []Proof{deep}}
		if i == 0 {
			deep.Rule = len(l) - 1
		}
		ok, g := Check(l, facts, deep)
		if i < 4 {
			want(t, "deep", q, e, deep, api.OK)
			want(t, "Check", ok, g, true, api.OK)
			continue
		}
		want(t, "41 deep", q, e, Proof{}, api.ErrSize)
		want(t, "Check of 41 deep", ok, g, false, api.OK)
	}
}

func TestCheck(t *testing.T) {
	l := append([]Rule{rule(at(3, 0), is(0, 0, 1), not(1, 1, 0)), rule(at(4, -1))}, reach...)
	sub := Proof{2, fa(1, 2, 3), []Proof{leaf(steps[1])}}
	for i, x := range []struct {
		p  Proof
		ok bool
	}{
		{Proof{3, fa(1, 1, 3), []Proof{leaf(steps[0]), sub}}, true},
		{Proof{3, fa(1, 1, 3), []Proof{sub, leaf(steps[0])}}, false},
		{Proof{3, fa(1, 1, 2), []Proof{leaf(steps[0]), sub}}, false},
		{Proof{3, fa(1, 1, 3), []Proof{leaf(steps[0])}}, false},
		{Proof{3, fa(1, 1, 3), []Proof{leaf(steps[0]), sub, sub}}, false},
		{Proof{3, fa(1, 1, 3), []Proof{leaf(steps[0]), leaf(fa(1, 2, 3))}}, false},
		{Proof{2, fa(1, 1, 3), []Proof{leaf(steps[0])}}, false},
		{Proof{2, fa(1, 1, 2), []Proof{leaf(fa(0, 1, 2))}}, true},
		{Proof{2, fa(1, 1), []Proof{leaf(steps[0])}}, false},
		{Proof{2, fa(1, 1, 2), []Proof{leaf(fa(0, 1, 2, 3))}}, false},
		{Proof{2, fa(1, 0, 0), []Proof{leaf(fa(0, 0, 0))}}, false},
		{Proof{2, fa(1, 1<<62, 1<<62), []Proof{leaf(fa(0, 1<<62, 1<<62))}}, false},
		{Proof{-1, steps[0], []Proof{leaf(steps[0])}}, false},
		{leaf(fa(0, 3, 1)), false},
		{leaf(fa(0)), false},
		{Proof{}, false},
		{Proof{-2, steps[0], nil}, false},
		{Proof{4, steps[0], nil}, false},
		{Proof{1 << 62, steps[0], nil}, false},
		{Proof{0, fa(3, 1), []Proof{leaf(steps[0])}}, true},
		{Proof{1, fa(4, 1), nil}, true},
		{Proof{1, fa(4, 2), nil}, false},
		{Proof{1, fa(4, 1), []Proof{leaf(steps[0])}}, false},
	} {
		ok, e := Check(l, steps, x.p)
		if ok != x.ok || e != api.OK {
			t.Error(i, x.p, ok, e)
		}
	}
	ok, e := Check(l, append(steps, fa(0, 2, 1)), Proof{0, fa(3, 1), []Proof{leaf(steps[0])}})
	want(t, "a Lit with Not hinders", ok, e, false, api.OK)
	ok, e = Check(loop, []api.Fact{fa(0, 1)}, leaf(fa(0, 1)))
	want(t, "no strata", ok, e, false, api.ErrLoop)
}

// TestCheckSize has proofs of 500 and 501 nodes: R0 1 is given, or follows from itself, once or three times.
func TestCheckSize(t *testing.T) {
	l := []Rule{rule(at(0, 0), is(0, 0)), rule(at(0, 0), is(0, 0), is(0, 0), is(0, 0)), rule(at(0, 0), is(0, 0), is(0, 0))}
	facts := []api.Fact{fa(0, 1)}
	var tree func(nodes int) Proof
	tree = func(nodes int) Proof {
		switch nodes {
		case 1:
			return leaf(facts[0])
		case 2:
			return Proof{0, facts[0], []Proof{tree(1)}}
		case 3:
			return Proof{2, facts[0], []Proof{tree(1), tree(1)}}
		}
		third := (nodes - 1) / 3
		return Proof{1, facts[0], []Proof{tree(third), tree(third), tree(nodes - 1 - 2*third)}}
	}
	for _, x := range []struct {
		nodes int
		ok    bool
	}{{1, true}, {10, true}, {500, true}, {501, false}, {100000, false}} {
		p := tree(x.nodes)
		n, _ := measure(p)
		ok, e := Check(l, facts, p)
		if n != x.nodes || ok != x.ok || e != api.OK {
			t.Error(x, n, ok, e)
		}
	}
}
