package depend

import (
	"math/rand"
	"reflect"
	"slices"
	"testing"

	"cubeb/api"
)

var chain = []Dep{{1, 2}, {2, 4}}

// sample calls f with many numbers of attributes and dependencies of them.
func sample(f func(r *rand.Rand, n int, l []Dep)) {
	r := rand.New(rand.NewSource(1))
	for range 400 {
		n := 1 + r.Intn(5)
		f(r, n, someDeps(r, n, r.Intn(6)))
	}
}

func someDeps(r *rand.Rand, n, count int) []Dep {
	var l []Dep
	for range count {
		l = append(l, Dep{r.Intn(1<<n) & r.Intn(1<<n), r.Intn(1 << n)})
	}
	return l
}

func allDeps(n int, f func(Dep)) {
	for from := range 1 << n {
		for to := range 1 << n {
			f(Dep{from, to})
		}
	}
}

// slowFollows asks every table of two rows: closed sets are where two rows may be equal.
func slowFollows(n int, l []Dep, d Dep) bool {
	for equal := range 1 << n {
		ok := true
		for _, g := range l {
			if contains(equal, g.From) && !contains(equal, g.To) {
				ok = false
			}
		}
		if ok && contains(equal, d.From) && !contains(equal, d.To) {
			return false
		}
	}
	return true
}

func want[T any](t *testing.T, what string, got T, e api.Errno, expect T, err api.Errno) {
	t.Helper()
	if e != err || !reflect.DeepEqual(got, expect) {
		t.Errorf("%s: got %v, %d; want %v, %d", what, got, e, expect, err)
	}
}

// errOf returns the error of a call, and -1 if another result of a call with an error is not empty.
func errOf(results ...any) api.Errno {
	last := len(results) - 1
	e := results[last].(api.Errno)
	for _, x := range results[:last] {
		v := reflect.ValueOf(x)
		if e != api.OK && !v.IsZero() && (v.Kind() != reflect.Slice || v.Len() > 0) {
			return -1
		}
	}
	return e
}

func TestClosureFollows(t *testing.T) {
	for set, c := range []int{0, 7, 6, 7, 4, 7, 6, 7} {
		got, e := Closure(3, chain, set)
		want(t, "Closure", got, e, c, api.OK)
	}
	got, e := Closure(8, []Dep{{0, 128}}, 0)
	want(t, "Closure of nothing", got, e, 128, api.OK)
	sample(func(r *rand.Rand, n int, l []Dep) {
		allDeps(n, func(d Dep) {
			ok, e := Follows(n, l, d)
			want(t, "Follows", ok, e, slowFollows(n, l, d), api.OK)
		})
	})
}

// TestArguments gives each function every kind of argument that is not valid.
func TestArguments(t *testing.T) {
	many := make([]Dep, 13)
	for _, x := range []struct {
		n int
		l []Dep
	}{{0, nil}, {-1, nil}, {9, nil}, {1 << 62, nil}, {3, many}, {3, []Dep{{8, 0}}}, {3, []Dep{{0, 8}}}, {3, []Dep{{-1, 0}}}, {3, []Dep{{0, -1}}}} {
		d := Dep{0, 0}
		e1 := errOf(Closure(x.n, x.l, 0))
		e2 := errOf(Follows(x.n, x.l, d))
		e3 := errOf(Prove(x.n, x.l, d))
		e4 := errOf(Check(x.n, x.l, nil))
		e5 := errOf(Refute(x.n, x.l, d))
		e6 := errOf(Keys(x.n, x.l))
		e7 := errOf(Critical(x.n, x.l))
		e8 := errOf(Armstrong(x.n, x.l))
		e9 := errOf(Chase(x.n, x.l, []int{7}))
		e10 := errOf(Lossless(x.n, x.l, []int{7}))
		e11 := errOf(Violation(x.n, x.l, 0))
		e12 := errOf(Decompose(x.n, x.l))
		for i, e := range []api.Errno{e1, e2, e3, e4, e5, e6, e7, e8, e9, e10, e11, e12} {
			if e != api.ErrArg {
				t.Error(x, i, e)
			}
		}
	}
	if _, e := Keys(8, make([]Dep, 12)); e != api.OK {
		t.Error("12 dependencies are allowed", e)
	}
	for _, s := range []int{-1, 8, -1 << 63, 1<<63 - 1} {
		e1 := errOf(Closure(3, chain, s))
		e2 := errOf(Follows(3, chain, Dep{s, 0}))
		e3 := errOf(Follows(3, chain, Dep{0, s}))
		e4 := errOf(Prove(3, chain, Dep{0, s}))
		e5 := errOf(Refute(3, chain, Dep{s, 1}))
		e6 := errOf(Violation(3, chain, s))
		e7 := errOf(Chase(3, chain, []int{7, s}))
		e8 := errOf(Lossless(3, chain, []int{s, 7}))
		e9 := errOf(Holds(3, nil, Dep{s, 0}))
		for i, e := range []api.Errno{e1, e2, e3, e4, e5, e6, e7, e8, e9} {
			if e != api.ErrArg {
				t.Error(s, i, e)
			}
		}
	}
}

func TestProveCheck(t *testing.T) {
	sample(func(r *rand.Rand, n int, l []Dep) {
		allDeps(n, func(d Dep) {
			p, e := Prove(n, l, d)
			if !slowFollows(n, l, d) {
				want(t, "Prove", p, e, nil, api.ErrNone)
				return
			}
			ok, f := Check(n, l, p)
			if e != api.OK || f != api.OK || !ok || p[len(p)-1].Dep != d {
				t.Error(n, l, d, p, ok, e, f)
			}
		})
	})
	long := []Dep{}
	for a := range 7 {
		long = append(long, Dep{1 << a, 1 << (a + 1)})
	}
	slices.Reverse(long)
	p, e := Prove(8, long, Dep{1, 128})
	if ok, _ := Check(8, long, p); !ok || e != api.OK {
		t.Error(p, e)
	}
}

func TestCheckRefuses(t *testing.T) {
	good := []Step{{0, 0, 0, Dep{1, 2}}, {0, 1, 0, Dep{2, 4}}, {3, 0, 1, Dep{1, 4}}, {1, 0, 0, Dep{7, 4}}, {2, 2, 2, Dep{3, 6}}}
	ok, e := Check(3, chain, good)
	want(t, "good proof", ok, e, true, api.OK)
	for i, bad := range [][]Step{
		nil,
		{{0, 2, 0, Dep{1, 2}}}, {{0, -1, 0, Dep{1, 2}}}, {{0, 0, 1, Dep{1, 2}}}, {{0, 1, 0, Dep{1, 2}}},
		{{1, 0, 0, Dep{1, 2}}}, {{1, 1, 0, Dep{3, 2}}}, {{1, 0, 1, Dep{3, 2}}}, {{1, 0, 0, Dep{8, 8}}}, {{1, 0, 0, Dep{-1, 1}}}, {{1, 0, 0, Dep{1, -8}}},
		{good[0], {2, 1, 0, Dep{1, 2}}}, {good[0], {2, -1, 0, Dep{1, 2}}}, {good[0], {2, 0, 8, Dep{9, 10}}}, {good[0], {2, 0, -1, Dep{-1, -1}}}, {good[0], {2, 0, 4, Dep{5, 2}}}, {good[0], {2, 0, 4, Dep{1, 6}}},
		{good[0], good[1], {3, 1, 0, Dep{1, 4}}}, {good[0], good[1], {3, 0, 2, Dep{1, 4}}}, {good[0], good[1], {3, -1, 1, Dep{1, 4}}}, {good[0], good[1], {3, 0, -1, Dep{1, 4}}}, {good[0], good[1], {3, 2, 1, Dep{1, 4}}}, {good[0], good[1], {3, 0, 1, Dep{1, 6}}}, {good[0], good[1], {3, 0, 1, Dep{3, 4}}},
		{{4, 0, 0, Dep{1, 1}}}, {{-1, 0, 0, Dep{1, 1}}}, {{4, 0, 0, Dep{1, 1}}, {1, 0, 0, Dep{1, 1}}},
		slices.Repeat([]Step{{1, 0, 0, Dep{1, 1}}}, 101),
	} {
		if ok, e := Check(3, chain, bad); ok || e != api.OK {
			t.Error(i, bad, ok, e)
		}
	}
	ok, e = Check(3, chain, slices.Repeat([]Step{{1, 0, 0, Dep{1, 1}}}, 100))
	want(t, "100 steps", ok, e, true, api.OK)
}

func TestRefute(t *testing.T) {
	rows, e := Refute(3, chain, Dep{2, 1})
	want(t, "Refute", rows, e, [][]int{{0, 0, 0}, {1, 0, 0}}, api.OK)
	sample(func(r *rand.Rand, n int, l []Dep) {
		allDeps(n, func(d Dep) {
			rows, e := Refute(n, l, d)
			if slowFollows(n, l, d) {
				want(t, "Refute", rows, e, nil, api.ErrNone)
				return
			}
			for _, g := range l {
				if ok, _ := Holds(n, rows, g); !ok {
					t.Error("does not hold", l, rows, g)
				}
			}
			if ok, f := Holds(n, rows, d); ok || e != api.OK || f != api.OK || len(rows) != 2 {
				t.Error(l, d, rows, e, f)
			}
		})
	})
}

func TestKeys(t *testing.T) {
	l, e := Keys(3, chain)
	want(t, "Keys", l, e, []int{1}, api.OK)
	l, e = Keys(4, []Dep{{1, 2}, {2, 4}, {4, 1}})
	want(t, "Keys of a ring", l, e, []int{9, 10, 12}, api.OK)
	l, e = Keys(2, []Dep{{0, 3}})
	want(t, "the empty key", l, e, []int{0}, api.OK)
	l, e = Keys(3, nil)
	want(t, "no dependencies", l, e, []int{7}, api.OK)
	sample(func(r *rand.Rand, n int, l []Dep) {
		keys, _ := Keys(n, l)
		for i, k := range keys {
			for j, m := range keys {
				if i != j && contains(k, m) || i < j && k > m {
					t.Error(l, keys)
				}
			}
		}
		for set := range 1 << n {
			all := slowFollows(n, l, Dep{set, full(n)})
			if all != containsOne(set, keys) {
				t.Error(l, keys, set)
			}
		}
	})
}

// slowCritical follows the definition, with a recursion.
func slowCritical(n int, closure func(int) int, p int) bool {
	if closure(p) == p {
		return false
	}
	for q := range p {
		if contains(p, q) && slowCritical(n, closure, q) && !contains(p, closure(q)) {
			return false
		}
	}
	return true
}

func TestCritical(t *testing.T) {
	l, e := Critical(3, chain)
	want(t, "Critical", l, e, []Dep{{1, 7}, {2, 6}}, api.OK)
	l, e = Critical(2, nil)
	want(t, "without dependencies", l, e, nil, api.OK)
	sample(func(r *rand.Rand, n int, l []Dep) {
		base, e := Critical(n, l)
		closure := func(set int) int { c, _ := Closure(n, l, set); return c }
		var slow []Dep
		for p := range 1 << n {
			if slowCritical(n, closure, p) {
				slow = append(slow, Dep{p, closure(p)})
			}
		}
		want(t, "Critical", base, e, slow, api.OK)
		if len(base) > len(l) {
			t.Error("a shorter base is there", l, base)
		}
		allDeps(n, func(d Dep) {
			if slowFollows(n, l, d) != slowFollows(n, base, d) {
				t.Error("something else follows", l, base, d)
			}
		})
	})
}
