package history

import (
	"math/rand"
	"reflect"
	"slices"
	"strings"
	"testing"

	"cubeb/api"
)

// parse reads operations such as r1x w2y c1 a2; the items are the letters from u to z.
func parse(s string) History {
	var h History
	for _, w := range strings.Fields(s) {
		o := Op{Txn: int(w[1] - '0'), Kind: strings.IndexByte("rwca", w[0])}
		if len(w) > 2 {
			o.Item = int(w[2] - 'u')
		}
		h = append(h, o)
	}
	return h
}

func want[T any](t *testing.T, what string, got T, e api.Errno, expect T, err api.Errno) {
	t.Helper()
	if e != err || !reflect.DeepEqual(got, expect) {
		t.Errorf("%s: got %v, %d; want %v, %d", what, got, e, expect, err)
	}
}

// errOf returns the error of a call, and -1 if another result of a call with an error is not empty.
func errOf(results ...any) api.Errno {
	last := len(results) - 1
	e := results[last].(api.Errno)
	for _, x := range results[:last] {
		v := reflect.ValueOf(x)
		if e != api.OK && !v.IsZero() && (v.Kind() != reflect.Slice || v.Len() > 0) {
			return -1
		}
	}
	return e
}

func someHistory(r *rand.Rand, txns, size, items int) History {
	var h History
	ended := map[int]bool{}
	for range r.Intn(size + 1) {
		o := Op{1 + r.Intn(txns), r.Intn(2), r.Intn(items)}
		if r.Intn(5) == 0 {
			o.Kind, o.Item = 2, 0
			if r.Intn(4) == 0 {
				o.Kind = 3
			}
		}
		if !ended[o.Txn] {
			h = append(h, o)
			ended[o.Txn] = o.Kind >= 2
		}
	}
	for t := 1; t <= txns; t++ {
		if !ended[t] && r.Intn(5) > 0 && len(h) < 40 {
			h = append(h, Op{t, 2, 0})
		}
	}
	return h
}

func sample(f func(r *rand.Rand, h History)) {
	r := rand.New(rand.NewSource(1))
	for i := range 3000 {
		f(r, someHistory(r, 2+i%4, 16, 1+i%3))
	}
}

func committedOf(h History) []int {
	var l []int
	for _, o := range h {
		if o.Kind == 2 {
			l = append(l, o.Txn)
		}
	}
	slices.Sort(l)
	return l
}

// orders calls f with all orders of l, the first ones first.
func orders(l []int, f func([]int) bool) []int {
	var found []int
	var grow func(begun []int)
	grow = func(begun []int) {
		if len(begun) == len(l) && found == nil && f(begun) {
			found = append([]int{}, begun...)
		}
		for _, t := range l {
			if found == nil && !slices.Contains(begun, t) {
				grow(append(slices.Clone(begun), t))
			}
		}
	}
	grow(nil)
	return found
}

func indexOf(h History, o Op) int { return slices.Index(h, o) }

func TestValid(t *testing.T) {
	for _, h := range []History{
		{{0, 0, 0}}, {{7, 0, 0}}, {{-1, 1, 0}}, {{1, -1, 0}}, {{1, 4, 0}}, {{1, 0, -1}}, {{1, 0, 6}}, {{1, 1, 1 << 62}}, {{1, 2, 1}}, {{1, 3, 1}},
		{{1, 2, 0}, {1, 2, 0}}, {{1, 2, 0}, {1, 3, 0}}, {{1, 3, 0}, {2, 0, 0}, {1, 0, 0}}, slices.Repeat(History{{1, 0, 0}}, 41),
	} {
		e1 := errOf(From(h))
		e2 := errOf(Order(h))
		e3 := errOf(Cycle(h))
		e4 := errOf(View(h))
		e5 := errOf(Recovery(h))
		e6 := errOf(Snapshot(h))
		e7 := errOf(SnapshotOrder(h))
		e8 := errOf(Danger(h))
		e9 := errOf(Lock(h))
		for i, e := range []api.Errno{e1, e2, e3, e4, e5, e6, e7, e8, e9} {
			if e != api.ErrArg {
				t.Error(h, i, e)
			}
		}
		if Valid(h) {
			t.Error("valid", h)
		}
	}
	for _, h := range []History{nil, {}, {{6, 0, 5}, {6, 1, 5}, {6, 2, 0}, {1, 3, 0}}, slices.Repeat(History{{1, 0, 0}}, 40)} {
		if !Valid(h) {
			t.Error("not valid", h)
		}
	}
}

func TestFrom(t *testing.T) {
	l, e := From(parse("w1x r2x c2 c1"))
	want(t, "From", l, e, []int{-1, 1, -1, -1}, api.OK)
	l, e = From(parse("r1x w1x r1x w2x r1x r1y a2 r1x a1 r3x"))
	want(t, "From", l, e, []int{0, -1, 1, -1, 2, 0, -1, 1, -1, 0}, api.OK)
	sample(func(r *rand.Rand, h History) {
		l, e := From(h)
		for i, o := range h {
			source := -1
			if o.Kind == 0 {
				source = 0
				for j, p := range h[:i] {
					if p.Kind == 1 && p.Item == o.Item && indexOf(h[:i], Op{p.Txn, 3, 0}) < 0 {
						source = h[j].Txn
					}
				}
			}
			if e != api.OK || l[i] != source {
				t.Error(h, l, i, e)
			}
		}
	})
}

// slowConflict follows the definition of a before b.
func slowConflict(h History, a, b int) bool {
	l := committedOf(h)
	if a == b || !slices.Contains(l, a) || !slices.Contains(l, b) {
		return false
	}
	for i, o := range h {
		for _, p := range h[i+1:] {
			if o.Txn == a && p.Txn == b && o.Kind < 2 && p.Kind < 2 && o.Kind+p.Kind > 0 && o.Item == p.Item {
				return true
			}
		}
	}
	return false
}

func agrees(order []int, before func(a, b int) bool) bool {
	for i, b := range order {
		for _, a := range order[i+1:] {
			if before(a, b) {
				return false
			}
		}
	}
	return true
}

func TestOrder(t *testing.T) {
	l, e := Order(parse("w1x r2x c2 c1"))
	want(t, "Order", l, e, []int{1, 2}, api.OK)
	l, e = Order(parse("r1x w2x w1x c1 c2"))
	want(t, "a cycle", l, e, nil, api.ErrLoop)
	l, e = Order(parse("r3x w1x c1 c3 c2"))
	want(t, "the first one", l, e, []int{2, 3, 1}, api.OK)
	l, e = Order(parse("r1x w2x w1x c1 a2"))
	want(t, "an abort", l, e, []int{1}, api.OK)
	l, e = Order(parse("r1x w2x w1x c1"))
	want(t, "an open one", l, e, []int{1}, api.OK)
	if l, e := Order(nil); len(l) != 0 || e != api.OK {
		t.Error(l, e)
	}
	sample(func(r *rand.Rand, h History) {
		l, e := Order(h)
		slow := orders(committedOf(h), func(l []int) bool {
			return agrees(l, func(a, b int) bool { return slowConflict(h, a, b) })
		})
		if e == api.OK && !slices.Equal(l, slow) || (e == api.OK) != (slow != nil) || e != api.OK && e != api.ErrLoop {
			t.Error(h, l, e, slow)
		}
	})
}

func TestCycle(t *testing.T) {
	l, e := Cycle(parse("r1x w2x w1x c1 c2"))
	want(t, "Cycle", l, e, []int{1, 2}, api.OK)
	l, e = Cycle(parse("w1x r2x c2 c1"))
	want(t, "no Cycle", l, e, nil, api.ErrNone)
	l, e = Cycle(parse("r3x w2x r2y w1y r1z w3z c1 c2 c3"))
	want(t, "a Cycle of three", l, e, []int{1, 3, 2}, api.OK)
	l, e = Cycle(parse("w1x w3x w1y w2x w2y w1y w3u w2u w2v w3v c1 c2 c3"))
	want(t, "the shortest, the first", l, e, []int{1, 2}, api.OK)
	sample(func(r *rand.Rand, h History) {
		l, e := Cycle(h)
		_, f := Order(h)
		if (e == api.OK) == (f == api.OK) {
			t.Error("just one is OK", h, e, f)
		}
		var best []int
		all := committedOf(h)
		for set := range 1 << len(all) {
			var some []int
			for i, x := range all {
				if set>>i&1 == 1 {
					some = append(some, x)
				}
			}
			c := orders(some, func(c []int) bool {
				for i := range c {
					if !slowConflict(h, c[i], c[(i+1)%len(c)]) {
						return false
					}
				}
				return len(c) > 0
			})
			if c != nil && (best == nil || len(c) < len(best) || len(c) == len(best) && slices.Compare(c, best) < 0) {
				best = c
			}
		}
		want(t, "Cycle", l, e, best, map[bool]api.Errno{true: api.OK, false: api.ErrNone}[best != nil])
	})
}

// slowView writes down, for operations done in an order, from which transaction each transaction's reads read, and the last writers.
func slowView(done History) string {
	reads := map[int]string{}
	last := map[int]int{}
	for _, o := range done {
		if o.Kind == 0 {
			reads[o.Txn] += string(rune('0' + last[o.Item]))
		} else if o.Kind == 1 {
			last[o.Item] = o.Txn
		}
	}
	s := ""
	for x := range 7 {
		s += reads[x] + "," + string(rune('0'+last[x])) + ";"
	}
	return s
}

func TestView(t *testing.T) {
	l, e := View(parse("r1x w2x w1x c1 c2"))
	want(t, "View", l, e, nil, api.ErrNone)
	l, e = View(parse("r1x w2x w1x w3x c1 c2 c3"))
	want(t, "blind writes", l, e, []int{1, 2, 3}, api.OK)
	l, e = View(parse("w2x r1x a2 w3x c1 c3"))
	want(t, "an abort", l, e, []int{1, 3}, api.OK)
	l, e = View(parse("w1x r1x w2x r1x c1 c2"))
	want(t, "own writes", l, e, nil, api.ErrNone)
	if l, e := View(nil); len(l) != 0 || e != api.OK {
		t.Error(l, e)
	}
	sample(func(r *rand.Rand, h History) {
		all := committedOf(h)
		var part History
		for _, o := range h {
			if slices.Contains(all, o.Txn) {
				part = append(part, o)
			}
		}
		same := func(order []int) bool {
			var done History
			for _, x := range order {
				for _, o := range part {
					if o.Txn == x {
						done = append(done, o)
					}
				}
			}
			return slowView(done) == slowView(part)
		}
		l, e := View(h)
		slow := orders(all, same)
		if e == api.OK && !slices.Equal(l, slow) || (e == api.OK) != (slow != nil) || e != api.OK && e != api.ErrNone {
			t.Error(h, l, e, slow)
		}
		if order, f := Order(h); f == api.OK && (e != api.OK || !same(order)) {
			t.Error("Order is no View", h, order)
		}
	})
}

func TestRecovery(t *testing.T) {
	for _, x := range []struct {
		h    string
		want [3]bool
	}{
		{"w1x r2x c2 c1", [3]bool{false, false, false}},
		{"w1x r2x c1 c2", [3]bool{true, false, false}},
		{"w1x r2x c1", [3]bool{true, false, false}},
		{"w1x r2x c2", [3]bool{false, false, false}},
		{"w1x r2x a2 c1", [3]bool{true, false, false}},
		{"w1x w2x c1 c2", [3]bool{true, true, false}},
		{"w1x c1 r2x w2x c2", [3]bool{true, true, true}},
		{"w1x a1 r2x c2", [3]bool{true, true, true}},
		{"w1x r1x w1x c1", [3]bool{true, true, true}},
		{"r1x w2x c2 c1", [3]bool{true, true, true}},
		{"w1x a1 w2x r3x c3", [3]bool{false, false, false}},
		{"", [3]bool{true, true, true}},
	} {
		a, b, c, e := Recovery(parse(x.h))
		want(t, "Recovery of "+x.h, [3]bool{a, b, c}, e, x.want, api.OK)
	}
	sample(func(r *rand.Rand, h History) {
		from, _ := From(h)
		a, b, c, e := Recovery(h)
		slow := [3]bool{true, true, true}
		for i, o := range h {
			mine := indexOf(h, Op{o.Txn, 2, 0})
			for _, p := range h[:i] {
				k := slices.IndexFunc(h, func(q Op) bool { return q.Txn == p.Txn && q.Kind >= 2 })
				if o.Kind < 2 && p.Kind == 1 && p.Txn != o.Txn && p.Item == o.Item && (k < 0 || k > i) {
					slow[2] = false
				}
			}
			if from[i] <= 0 || from[i] == o.Txn {
				continue
			}
			other := indexOf(h, Op{from[i], 2, 0})
			if mine >= 0 && (other < 0 || other > mine) {
				slow[0] = false
			}
			if other < 0 || other > i {
				slow[1] = false
			}
		}
		want(t, "Recovery", [3]bool{a, b, c}, e, slow, api.OK)
		if c && !b || b && !a {
			t.Error("classes", h, a, b, c)
		}
	})
}

func TestExchange(t *testing.T) {
	sample(func(r *rand.Rand, h History) {
		if len(h) < 2 {
			return
		}
		i := r.Intn(len(h) - 1)
		o, p := h[i], h[i+1]
		if o.Txn == p.Txn || o.Kind > 1 || p.Kind > 1 || o.Item == p.Item && o.Kind+p.Kind > 0 {
			return
		}
		g := slices.Clone(h)
		g[i], g[i+1] = p, o
		l1, e1 := Order(h)
		l2, e2 := Order(g)
		want(t, "Order", l2, e2, l1, e1)
		l1, e1 = Cycle(h)
		l2, e2 = Cycle(g)
		want(t, "Cycle", l2, e2, l1, e1)
		l1, e1 = View(h)
		l2, e2 = View(g)
		want(t, "View", l2, e2, l1, e1)
	})
}
