package history

import (
	"math/rand"
	"slices"
	"testing"

	"cubeb/api"
)

func TestLock(t *testing.T) {
	for _, x := range []struct {
		what, h, done string
		aborted       []int
	}{
		{"a cycle", "r1x r2x w1x w2x c1 c2", "r1x r2x a2 w1x c1", []int{2}},
		{"nothing waits", "r1x r2x w2y c1 c2", "r1x r2x w2y c1 c2", nil},
		{"a write waits for a read", "r1x w2x c1 c2", "r1x c1 w2x c2", nil},
		{"a read waits for a write", "w1x r2x w2y c1 c2", "w1x c1 r2x w2y c2", nil},
		{"own locks", "r1x w1x r1x w1x c1", "r1x w1x r1x w1x c1", nil},
		{"an abort lets go", "w1x w2x a1 c2", "w1x a1 w2x c2", nil},
		{"what waits in the end", "w1x r2x c2 r3y c3", "w1x r3y c3", nil},
		{"an abort that waits", "w1x w2x a2 w3x c1 c3", "w1x c1 w2x a2 w3x c3", nil},
		{"the first one in h goes on", "w1x w3x w2x c3 c2 c1", "w1x c1 w3x c3 w2x c2", nil},
		{"all that can go on do", "w1x r3x r2x w4y c1 c2 c3", "w1x w4y c1 r3x r2x c2 c3", nil},
		{"it goes on until it waits again", "w1x w2y r3x r3y r3z c1 w4u c2 c3", "w1x w2y c1 r3x w4u c2 r3y r3z c3", nil},
		{"a read passes a write that waits", "r1x w2x r3x c1 c3 c2", "r1x r3x c1 c3 w2x c2", nil},
		{"a cycle of three", "w1x w2y w3z w1y w2z w3x c3 c2 c1", "w1x w2y w3z a3 w2z c2 w1y c1", []int{3}},
		{"a cycle when it goes on", "w1x w2y r3x w3y w3z w2z c1 c2", "w1x w2y w2z c1 r3x c2 w3y w3z", nil},
		{"it aborts when it goes on", "w1x w2y w3z r3x w3y c3 w2z c1 c2", "w1x w2y w3z c1 r3x a3 w2z c2", []int{3}},
		{"an upgrade waits for a lock that came later", "r1x r2x w1x r3x c2 c3 c1", "r1x r2x r3x c2 c3 w1x c1", nil},
		{"two abort", "r1x r2x r3x w1x w2x w3x c1 c2 c3", "r1x r2x r3x a2 a3 w1x c1", []int{2, 3}},
		{"nothing", "", "", nil},
	} {
		done, aborted, e := Lock(parse(x.h))
		want(t, x.what, done, e, parse(x.done), api.OK)
		want(t, x.what, aborted, e, x.aborted, api.OK)
	}
}

func TestLockSample(t *testing.T) {
	aborts, waits := 0, 0
	sample(func(r *rand.Rand, h History) {
		done, aborted, e := Lock(h)
		_, _, strict, _ := Recovery(done)
		if e != api.OK || !Valid(done) || !strict {
			t.Error("not strict", h, done, e)
		}
		if _, e := Order(done); e != api.OK {
			t.Error("no order", h, done, e)
		}
		var commits []int
		for _, o := range done {
			if o.Kind == 2 {
				commits = append(commits, o.Txn)
			}
		}
		if !agrees(commits, func(a, b int) bool { return slowConflict(done, a, b) }) {
			t.Error("the commits are no order", h, done)
		}
		if again, none, _ := Lock(done); !slices.Equal(again, done) || len(none) > 0 {
			t.Error("something waits", done, again)
		}
		for x := 1; x <= 6; x++ {
			mine := func(l History) History {
				return slices.DeleteFunc(slices.Clone(l), func(o Op) bool { return o.Txn != x })
			}
			was, is := mine(h), mine(done)
			if i := slices.Index(aborted, x); i >= 0 {
				aborts++
				is = is[:len(is)-1]
			} else if len(is) < len(was) {
				waits++
			}
			if !slices.Equal(was[:len(is)], is) {
				t.Error("another order of a transaction", h, done)
			}
		}
	})
	if aborts < 100 || waits < 100 {
		t.Error("the samples are too much alike", aborts, waits)
	}
}
