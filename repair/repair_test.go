package repair

import (
	"math/rand"
	"reflect"
	"slices"
	"testing"

	"cubeb/api"
	"cubeb/match"
)

func at(rel int, args ...int) match.Atom { return match.Atom{Rel: rel, Args: args} }

func fa(rel int, args ...int) api.Fact { return api.Fact{Rel: rel, Args: args} }

func query(head []int, body ...match.Atom) match.Query { return match.Query{Head: head, Body: body} }

var (
	ones   = []int{1, 1, 1, 1, 1, 1}
	books0 = []api.Fact{fa(0, 1, 2), fa(0, 1, 3), fa(0, 2, 3)}
)

func want[T any](t *testing.T, what string, got T, e api.Errno, expect T, err api.Errno) {
	t.Helper()
	if e != err || !reflect.DeepEqual(got, expect) {
		t.Errorf("%s: got %v, %d; want %v, %d", what, got, e, expect, err)
	}
}

// errOf returns the error of a call, and -1 if another result of a call with an error is not empty.
func errOf(results ...any) api.Errno {
	last := len(results) - 1
	e := results[last].(api.Errno)
	for _, x := range results[:last] {
		v := reflect.ValueOf(x)
		if e != api.OK && !v.IsZero() && (v.Kind() != reflect.Slice || v.Len() > 0) {
			return -1
		}
	}
	return e
}

var arities = []int{2, 2, 1, 3, 2, 1}

// someCase returns a schema, facts, and a plain query.
func someCase(r *rand.Rand) ([]int, []api.Fact, match.Query) {
	schema := make([]int, 6)
	for i := range schema {
		schema[i] = r.Intn(3)
		if r.Intn(2) == 0 {
			schema[i] = 1
		}
	}
	var q match.Query
	rels := r.Perm(6)[:1+r.Intn(4)]
	for _, rel := range rels {
		a := at(rel)
		for range arities[rel] {
			x := r.Intn(4)
			if r.Intn(6) == 0 {
				x = -1 - r.Intn(2)
			}
			a.Args = append(a.Args, x)
		}
		q.Body = append(q.Body, a)
	}
	var facts []api.Fact
	for range r.Intn(9) {
		f := fa(rels[r.Intn(len(rels))])
		for range arities[f.Rel] {
			f.Args = append(f.Args, 1+r.Intn(2))
		}
		if !slices.ContainsFunc(facts, func(g api.Fact) bool { return reflect.DeepEqual(f, g) }) {
			facts = append(facts, f)
		}
	}
	return schema, facts, q
}

func sample(f func(r *rand.Rand, schema []int, facts []api.Fact, q match.Query)) {
	r := rand.New(rand.NewSource(1))
	for range 2000 {
		schema, facts, q := someCase(r)
		f(r, schema, facts, q)
	}
}

func clash(schema []int, f, g api.Fact) bool {
	k := min(schema[f.Rel], len(f.Args))
	return f.Rel == g.Rel && slices.Equal(f.Args[:k], g.Args[:k]) && !slices.Equal(f.Args, g.Args)
}

// slowRepairs goes through all sets: a repair is a set without clashes to which nothing can be added.
func slowRepairs(schema []int, facts []api.Fact) []int {
	var l []int
	for set := range 1 << len(facts) {
		ok := true
		for i, f := range facts {
			alone := true
			for j, g := range facts {
				if i != j && set>>j&1 == 1 && clash(schema, f, g) {
					alone = false
				}
			}
			ok = ok && alone == (set>>i&1 == 1)
		}
		if ok {
			l = append(l, set)
		}
	}
	return l
}

func part(facts []api.Fact, set int) []api.Fact {
	var l []api.Fact
	for i, f := range facts {
		if set>>i&1 == 1 {
			l = append(l, f)
		}
	}
	return l
}

func TestArguments(t *testing.T) {
	good := query(nil, at(0, 0))
	many := make([]api.Fact, 13)
	for i := range many {
		many[i] = fa(0, i+1)
	}
	for i, x := range []struct {
		schema []int
		facts  []api.Fact
		q      match.Query
	}{
		{nil, nil, good}, {ones[:5], nil, good}, {append(slices.Clone(ones), 1), nil, good}, {[]int{4, 1, 1, 1, 1, 1}, nil, good}, {[]int{1, 1, 1, 1, 1, -1}, nil, good},
		{ones, many, good}, {ones, []api.Fact{fa(0, 1), fa(0, 1)}, good}, {ones, []api.Fact{fa(0, 1), fa(0, 1, 2)}, good}, {ones, []api.Fact{fa(6, 1)}, good}, {ones, []api.Fact{fa(0, 100)}, good}, {ones, []api.Fact{fa(0)}, good},
		{ones, nil, match.Query{}}, {ones, nil, query(nil, at(0, 8))}, {ones, nil, query(nil, at(6, 1))},
	} {
		badFacts := i >= 5 && i < 11
		badQuery := i >= 11
		e1 := errOf(Blocks(x.schema, x.facts))
		e2 := errOf(Repairs(x.schema, x.facts))
		e3 := errOf(Certain(x.schema, x.facts, x.q))
		e4 := errOf(Counter(x.schema, x.facts, x.q))
		e5 := errOf(Sure(x.schema, x.facts, x.q))
		e6 := errOf(Range(x.schema, x.facts, x.q))
		e7 := errOf(Share(x.schema, x.facts, x.q))
		e8 := errOf(Rewrite(x.schema, x.facts, x.q))
		e9 := errOf(Attacks(x.schema, x.q))
		if badQuery {
			e1, e2 = api.ErrArg, api.ErrArg
		}
		if badFacts {
			e9 = api.ErrArg
		}
		for j, e := range []api.Errno{e1, e2, e3, e4, e5, e6, e7, e8, e9} {
			if e != api.ErrArg {
				t.Error(i, j, e)
			}
		}
	}
	headed := query([]int{0}, at(0, 0))
	e1 := errOf(Certain(ones, nil, headed))
	e2 := errOf(Counter(ones, nil, headed))
	e3 := errOf(Share(ones, nil, headed))
	e4 := errOf(Rewrite(ones, nil, headed))
	for i, e := range []api.Errno{e1, e2, e3, e4} {
		if e != api.ErrArg {
			t.Error("with a Head", i, e)
		}
	}
	n, e := Repairs(ones, many[:12])
	want(t, "12 facts", n, e, 1, api.OK)
}

func TestSize(t *testing.T) {
	var facts []api.Fact
	for i := range 12 {
		facts = append(facts, fa(0, i+1))
	}
	zero := make([]int, 6)
	q := query(nil, at(0, 0), at(0, 1), at(0, 2), at(0, 3))
	e1 := errOf(Certain(zero, facts, q))
	e2 := errOf(Counter(zero, facts, q))
	e3 := errOf(Sure(zero, facts, q))
	e4 := errOf(Range(zero, facts, q))
	e5 := errOf(Share(zero, facts, q))
	for i, e := range []api.Errno{e1, e2, e3, e4, e5} {
		if e != api.ErrSize {
			t.Error(i, e)
		}
	}
	q.Head = []int{0}
	_, e := Certain(zero, facts, q)
	want(t, "ErrArg before ErrSize", 0, e, 0, api.ErrArg)
}

func TestBlocks(t *testing.T) {
	l, e := Blocks(ones, books0)
	want(t, "Blocks", l, e, []int{0, 0, 2}, api.OK)
	n, e := Repairs(ones, books0)
	want(t, "Repairs", n, e, 2, api.OK)
	l, e = Blocks([]int{0, 3, 2, 1, 1, 1}, []api.Fact{fa(1, 1, 2), fa(0, 1), fa(1, 1, 3), fa(0, 2), fa(2, 1, 1, 1), fa(2, 1, 1, 2)})
	want(t, "Blocks by key", l, e, []int{0, 1, 2, 1, 4, 4}, api.OK)
	n, e = Repairs(ones, nil)
	want(t, "no facts", n, e, 1, api.OK)
	var four []api.Fact
	for i := range 12 {
		four = append(four, fa(0, 1+i/3, 1+i%3))
	}
	n, e = Repairs(ones, four)
	want(t, "Repairs", n, e, 81, api.OK)
	sample(func(r *rand.Rand, schema []int, facts []api.Fact, q match.Query) {
		l, e := Blocks(schema, facts)
		product := 1
		for i, f := range facts {
			first, size := i, 1
			for j, g := range facts {
				if clash(schema, f, g) {
					first = min(first, j)
					size++
				}
			}
			if first == i {
				product *= size
			}
			want(t, "Blocks", l[i], e, first, api.OK)
		}
		n, e := Repairs(schema, facts)
		want(t, "Repairs", n, e, product, api.OK)
		want(t, "Repairs", n, e, len(slowRepairs(schema, facts)), api.OK)
	})
}

func TestCertain(t *testing.T) {
	three := query(nil, at(0, 0, -3))
	ok, e := Certain(ones, books0, three)
	want(t, "Certain", ok, e, true, api.OK)
	n, e := Counter(ones, books0, three)
	want(t, "no Counter", n, e, 0, api.ErrNone)
	both := query(nil, at(0, -1, -3))
	ok, e = Certain(ones, books0, both)
	want(t, "not Certain", ok, e, false, api.OK)
	n, e = Counter(ones, books0, both)
	want(t, "Counter", n, e, 5, api.OK)
	yes, all, e := Share(ones, books0, both)
	want(t, "Share", [2]int{yes, all}, e, [2]int{1, 2}, api.OK)
	ok, e = Certain(ones, nil, three)
	want(t, "no facts", ok, e, false, api.OK)
	n, e = Counter(ones, nil, three)
	want(t, "no facts", n, e, 0, api.OK)
	sample(func(r *rand.Rand, schema []int, facts []api.Fact, q match.Query) {
		if r.Intn(3) == 0 {
			q.Body = append(q.Body, q.Body[0])
			q.Body[len(q.Body)-1].Args = slices.Repeat([]int{r.Intn(4)}, len(q.Body[0].Args))
		}
		trues, counter := 0, -1
		repairs := slowRepairs(schema, facts)
		for _, set := range repairs {
			if l, _ := match.Results(q, part(facts, set)); len(l) > 0 {
				trues++
			} else if counter < 0 {
				counter = set
			}
		}
		ok, e := Certain(schema, facts, q)
		want(t, "Certain", ok, e, trues == len(repairs), api.OK)
		n, e := Counter(schema, facts, q)
		if counter < 0 {
			want(t, "Counter", n, e, 0, api.ErrNone)
		} else {
			want(t, "Counter", n, e, counter, api.OK)
		}
		yes, all, e := Share(schema, facts, q)
		want(t, "Share", [2]int{yes, all}, e, [2]int{trues, len(repairs)}, api.OK)
	})
}

func TestSureRange(t *testing.T) {
	l, e := Sure(ones, books0, query([]int{0}, at(0, 0, 1)))
	want(t, "Sure", l, e, [][]int{{1}, {2}}, api.OK)
	l, e = Sure(ones, books0, query([]int{0, 1}, at(0, 0, 1)))
	want(t, "Sure", l, e, [][]int{{2, 3}}, api.OK)
	l, e = Sure(ones, books0, query(nil, at(0, 0, -3)))
	want(t, "Sure without Head", l, e, [][]int{{}}, api.OK)
	low, high, e := Range(ones, books0, query(nil, at(0, 0, 1)))
	want(t, "Range", [2]int{low, high}, e, [2]int{2, 2}, api.OK)
	low, high, e = Range(ones, books0, query(nil, at(0, 0, -3)))
	want(t, "Range", [2]int{low, high}, e, [2]int{1, 2}, api.OK)
	sample(func(r *rand.Rand, schema []int, facts []api.Fact, q match.Query) {
		for v := range 4 {
			uses := func(a match.Atom) bool { return slices.Contains(a.Args, v) }
			if r.Intn(2) == 0 && slices.ContainsFunc(q.Body, uses) {
				q.Head = append(q.Head, v)
			}
		}
		repairs := slowRepairs(schema, facts)
		low, high, e := Range(schema, facts, q)
		minimum, maximum := 1<<40, -1
		for _, set := range repairs {
			n, _ := match.Count(q, part(facts, set))
			minimum, maximum = min(minimum, n), max(maximum, n)
		}
		want(t, "Range", [2]int{low, high}, e, [2]int{minimum, maximum}, api.OK)
		sure, e := Sure(schema, facts, q)
		all, _ := match.Results(q, facts)
		var expect [][]int
		for _, x := range all {
			certain, _ := Certain(schema, facts, inPlace(q, x))
			if certain {
				expect = append(expect, x)
			}
		}
		if len(sure)+len(expect) > 0 || e != api.OK {
			want(t, "Sure", sure, e, expect, api.OK)
		}
		if len(repairs) == 1 && len(all) > 0 {
			want(t, "Sure without clashes", sure, e, all, api.OK)
		}
		f := fa(q.Body[0].Rel, slices.Repeat([]int{9}, arities[q.Body[0].Rel])...)
		more := append(slices.Clone(facts), f)
		if schema[f.Rel] > 0 {
			again, _ := Sure(schema, more, q)
			for _, x := range sure {
				if !slices.ContainsFunc(again, func(y []int) bool { return slices.Equal(x, y) }) {
					t.Error("a fact more took something away", schema, facts, f, q)
				}
			}
		}
	})
}

// inPlace puts numbers in the place of the Head's variables.
func inPlace(q match.Query, numbers []int) match.Query {
	var p match.Query
	for _, a := range q.Body {
		b := at(a.Rel)
		for _, x := range a.Args {
			if i := slices.Index(q.Head, x); i >= 0 {
				x = -numbers[i]
			}
			b.Args = append(b.Args, x)
		}
		p.Body = append(p.Body, b)
	}
	return p
}
