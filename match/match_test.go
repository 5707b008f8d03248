package match

import (
	"math/rand"
	"reflect"
	"slices"
	"testing"

	"cubeb/api"
)

func at(rel int, args ...int) Atom { return Atom{rel, args} }

func fa(rel int, args ...int) api.Fact { return api.Fact{Rel: rel, Args: args} }

func query(head []int, body ...Atom) Query { return Query{head, body} }

var (
	path     = query([]int{0, 2}, at(0, 0, 1), at(0, 1, 2))
	triangle = query(nil, at(0, 0, 1), at(0, 1, 2), at(0, 2, 0))
	steps    = []api.Fact{fa(0, 1, 2), fa(0, 2, 3), fa(0, 2, 2)}
)

func want[T any](t *testing.T, what string, got T, e api.Errno, expect T, err api.Errno) {
	t.Helper()
	if e != err || !reflect.DeepEqual(got, expect) {
		t.Errorf("%s: got %v, %d; want %v, %d", what, got, e, expect, err)
	}
}

// errOf returns the error of a call, and -1 if another result of a call with an error is not empty.
func errOf(results ...any) api.Errno {
	last := len(results) - 1
	e := results[last].(api.Errno)
	for _, x := range results[:last] {
		v := reflect.ValueOf(x)
		if e != api.OK && !v.IsZero() && (v.Kind() != reflect.Slice || v.Len() > 0) {
			return -1
		}
	}
	return e
}

// someQuery returns a query of few Rels, so that atoms often agree.
func someQuery(r *rand.Rand, vars int) Query {
	var q Query
	for range 1 + r.Intn(4) {
		rel := r.Intn(2)
		a := Atom{Rel: rel}
		for range rel + 1 + r.Intn(2) {
			x := r.Intn(vars)
			if r.Intn(8) == 0 {
				x = -1 - r.Intn(3)
			}
			a.Args = append(a.Args, x)
		}
		q.Body = append(q.Body, a)
	}
	for v := range vars {
		if q.variables()>>v&1 == 1 && r.Intn(3) == 0 && len(q.Head) < 4 {
			q.Head = append(q.Head, v)
		}
	}
	return q
}

func someFacts(r *rand.Rand) []api.Fact {
	facts := make([]api.Fact, r.Intn(8))
	for i := range facts {
		facts[i].Rel = r.Intn(2)
		for range facts[i].Rel + 1 + r.Intn(2) {
			facts[i].Args = append(facts[i].Args, 1+r.Intn(3))
		}
	}
	return facts
}

func sample(f func(r *rand.Rand, q Query, facts []api.Fact)) {
	r := rand.New(rand.NewSource(1))
	for range 1500 {
		f(r, someQuery(r, 4), someFacts(r))
	}
}

// slowMatches tries all numbers from 1 to 3 for all variables.
func slowMatches(q Query, facts []api.Fact) [][]int {
	var all [][]int
	row := make([]int, 4)
	for x := range 256 {
		ok := true
		for v := range row {
			row[v] = x >> (2 * v) & 3
			ok = ok && (row[v] != 0) == (q.variables()>>v&1 == 1)
		}
		for _, a := range q.Body {
			f := image(a, row)
			ok = ok && slices.ContainsFunc(facts, func(g api.Fact) bool { return reflect.DeepEqual(f, g) })
		}
		if ok {
			all = append(all, slices.Clone(row))
		}
	}
	return all
}

func image(a Atom, row []int) api.Fact {
	f := api.Fact{Rel: a.Rel}
	for _, t := range a.Args {
		if t < 0 {
			f.Args = append(f.Args, -t)
		} else {
			f.Args = append(f.Args, row[t])
		}
	}
	return f
}

func slowResults(q Query, facts []api.Fact) [][]int {
	var l [][]int
	for _, m := range slowMatches(q, facts) {
		row := make([]int, len(q.Head))
		for i, v := range q.Head {
			row[i] = m[v]
		}
		l = append(l, row)
	}
	slices.SortFunc(l, slices.Compare[[]int])
	return slices.CompactFunc(l, slices.Equal[[]int])
}

func TestResultsCount(t *testing.T) {
	l, e := Results(path, steps)
	want(t, "Results", l, e, [][]int{{1, 2}, {1, 3}, {2, 2}, {2, 3}}, api.OK)
	n, e := Count(path, steps)
	want(t, "Count", n, e, 4, api.OK)
	n, e = Count(path, append(steps, steps...))
	want(t, "facts twice", n, e, 4, api.OK)
	l, e = Results(query(nil, at(0, -1, 0)), steps)
	want(t, "without Head", l, e, [][]int{{}}, api.OK)
	l, e = Results(query(nil, at(0, -3, 0)), steps)
	want(t, "no match", l, e, nil, api.OK)
	l, e = Results(query([]int{0, 0}, at(0, 0, 0)), steps)
	want(t, "a variable twice", l, e, [][]int{{2, 2}}, api.OK)
	n, e = Count(query(nil, at(0, 0)), []api.Fact{fa(0, 99), fa(0, 1, 2), fa(5, 1, 2, 3)})
	want(t, "other numbers of Args", n, e, 1, api.OK)
	sample(func(r *rand.Rand, q Query, facts []api.Fact) {
		l, e := Results(q, facts)
		want(t, "Results", l, e, slowResults(q, facts), api.OK)
		n, e := Count(q, facts)
		want(t, "Count", n, e, len(slowMatches(q, facts)), api.OK)
	})
}

func TestTooMany(t *testing.T) {
	var facts []api.Fact
	for x := range 24 {
		facts = append(facts, fa(0, x+1))
	}
	for _, x := range []struct {
		body []Atom
		n    int
		e    api.Errno
	}{
		{[]Atom{at(0, 0), at(0, 1), at(0, 2)}, 13824, api.OK},
		{[]Atom{at(0, 0), at(0, 1), at(0, 2), at(0, 2)}, 13824, api.OK},
		{[]Atom{at(0, 0), at(0, 1), at(0, 2), at(0, 3)}, 0, api.ErrSize},
		{[]Atom{at(0, 0), at(0, 1), at(0, 2), at(0, 3), at(1, 0)}, 0, api.ErrSize},
		{[]Atom{at(1, 0), at(0, 0), at(0, 1), at(0, 2), at(0, 3)}, 0, api.OK},
	} {
		q := Query{Body: x.body}
		n, e := Count(q, facts)
		want(t, "Count", n, e, x.n, x.e)
		l, e := Results(q, facts)
		if e != x.e || e == api.ErrSize && l != nil {
			t.Error(x, e)
		}
		parts, e := Reduce(q, facts)
		if e != x.e || e == api.ErrSize && parts != nil {
			t.Error(x, e)
		}
	}
	// 20,000 matches are allowed, more are not: 10 * 10 * 10 * 10 * 2 or 3.
	facts = facts[:10:10]
	q := query(nil, at(0, 0), at(0, 1), at(0, 2), at(0, 3), at(1, 4))
	n, e := Count(q, append(facts, fa(1, 1), fa(1, 2)))
	want(t, "20,000 matches", n, e, 20000, api.OK)
	n, e = Count(q, append(facts, fa(1, 1), fa(1, 2), fa(1, 3)))
	want(t, "30,000 matches", n, e, 0, api.ErrSize)
}

func TestValid(t *testing.T) {
	long := make([]Atom, 6)
	for i := range long {
		long[i] = at(0, 0)
	}
	bad := []Query{
		{}, {Body: long}, query([]int{1}, at(0, 0)), query([]int{-1}, at(0, -1)), query([]int{8}, at(0, 0)),
		query([]int{0, 0, 0, 0, 0}, at(0, 0)), query(nil, at(-1, 0)), query(nil, at(6, 0)), query(nil, at(0)),
		query(nil, at(0, 0, 0, 0, 0)), query(nil, at(0, 8)), query(nil, at(0, -10)), query(nil, at(0, 1<<62)), query(nil, at(0, -1<<63)),
	}
	good := query(nil, at(0, 7), at(5, -9))
	for _, q := range bad {
		e1 := errOf(Results(q, nil))
		e2 := errOf(Count(q, nil))
		e3 := errOf(Hom(q, good))
		e4 := errOf(Hom(good, q))
		e5 := errOf(CheckHom(q, good, nil))
		e6 := errOf(CheckHom(good, q, nil))
		e7 := errOf(Contained(q, good))
		e8 := errOf(Contained(good, q))
		e9 := errOf(Freeze(q))
		e10 := errOf(Core(q))
		e11 := errOf(Rest(q))
		e12 := errOf(JoinTree(q))
		e13 := errOf(CheckTree(q, nil))
		e14 := errOf(Reduce(q, nil))
		for i, e := range []api.Errno{e1, e2, e3, e4, e5, e6, e7, e8, e9, e10, e11, e12, e13, e14} {
			if e != api.ErrArg {
				t.Error(q, i, e)
			}
		}
	}
	for _, facts := range [][]api.Fact{
		slices.Repeat([]api.Fact{fa(0, 1)}, 25), {fa(-1, 1)}, {fa(6, 1)}, {fa(0)}, {fa(0, 1, 1, 1, 1)}, {fa(0, 0)}, {fa(0, 100)}, {fa(0, 1), fa(0, -1)},
	} {
		e1 := errOf(Results(good, facts))
		e2 := errOf(Count(good, facts))
		e3 := errOf(Reduce(good, facts))
		if e1 != api.ErrArg || e2 != api.ErrArg || e3 != api.ErrArg {
			t.Error(facts, e1, e2, e3)
		}
	}
	n, e := Count(good, append(slices.Repeat([]api.Fact{fa(0, 1)}, 23), fa(5, 9)))
	want(t, "24 facts", n, e, 1, api.OK)
	e1 := errOf(Hom(path, triangle))
	e2 := errOf(CheckHom(path, triangle, nil))
	e3 := errOf(Contained(path, triangle))
	if e1 != api.ErrArg || e2 != api.ErrArg || e3 != api.ErrArg {
		t.Error("Heads of other lengths", e1, e2, e3)
	}
}

func TestReduce(t *testing.T) {
	l, e := Reduce(query(nil, at(0, 0, 1), at(0, 1, -3)), steps)
	want(t, "Reduce", l, e, [][]api.Fact{{fa(0, 1, 2), fa(0, 2, 2)}, {fa(0, 2, 3)}}, api.OK)
	l, e = Reduce(query(nil, at(0, 0, 1), at(1, 0)), steps)
	if e != api.OK || len(l) != 2 || len(l[0])+len(l[1]) != 0 {
		t.Error("no match", l, e)
	}
	sample(func(r *rand.Rand, q Query, facts []api.Fact) {
		parts, e := Reduce(q, facts)
		if e != api.OK || len(parts) != len(q.Body) {
			t.Fatal(q, facts, parts, e)
		}
		var all []api.Fact
		for i, a := range q.Body {
			var slow []api.Fact
			for _, m := range slowMatches(q, facts) {
				slow = append(slow, image(a, m))
			}
			slices.SortFunc(slow, compareFacts)
			slow = slices.CompactFunc(slow, func(x, y api.Fact) bool { return reflect.DeepEqual(x, y) })
			want(t, "Reduce", parts[i], e, slow, api.OK)
			all = append(all, parts[i]...)
		}
		if len(all) <= api.MaxFacts {
			want(t, "Results of the parts", slowResults(q, all), e, slowResults(q, facts), api.OK)
		}
		n1, _ := Count(q, facts)
		n2, f := Count(q, all)
		if f == api.OK && n1 != n2 {
			t.Error(q, facts, n1, n2)
		}
		more, _ := Results(q, append(slices.Clone(facts), someFacts(r)...))
		for _, x := range slowResults(q, facts) {
			if !slices.ContainsFunc(more, func(y []int) bool { return slices.Equal(x, y) }) {
				t.Error("more facts took a result away", q, facts, x)
			}
		}
	})
}

func TestProducts(t *testing.T) {
	r := rand.New(rand.NewSource(2))
	for range 300 {
		p, q, facts := someQuery(r, 4), someQuery(r, 4), someFacts(r)
		both := Query{Body: slices.Clone(p.Body)}
		for _, a := range q.Body {
			b := at(a.Rel)
			for _, x := range a.Args {
				if x >= 0 {
					x += 4
				}
				b.Args = append(b.Args, x)
			}
			both.Body = append(both.Body, b)
		}
		n, e := Count(both, facts)
		if len(both.Body) <= 5 && e == api.OK && n != len(slowMatches(p, facts))*len(slowMatches(q, facts)) {
			t.Error(p, q, facts, n)
		}
	}
}
