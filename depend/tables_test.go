package depend

import (
	"math/rand"
	"testing"

	"cubeb/api"
)

func someRows(r *rand.Rand, n int) [][]int {
	rows := make([][]int, r.Intn(6))
	for i := range rows {
		for range n {
			rows[i] = append(rows[i], r.Intn(3)-1)
		}
	}
	return rows
}

func TestHolds(t *testing.T) {
	rows := [][]int{{-1 << 63, 5, 1}, {-1 << 63, 5, 2}, {0, 6, 1}}
	for _, x := range []struct {
		d  Dep
		ok bool
	}{{Dep{1, 2}, true}, {Dep{2, 1}, true}, {Dep{1, 4}, false}, {Dep{0, 1}, false}, {Dep{5, 2}, true}, {Dep{4, 1}, false}, {Dep{4, 4}, true}} {
		ok, e := Holds(3, rows, x.d)
		want(t, "Holds", ok, e, x.ok, api.OK)
	}
	ok, e := Holds(3, nil, Dep{0, 7})
	want(t, "no rows", ok, e, true, api.OK)
	same := make([][]int, 60)
	for i := range same {
		same[i] = []int{1}
	}
	ok, e = Holds(1, same, Dep{0, 1})
	want(t, "60 equal rows", ok, e, true, api.OK)
	for _, rows := range [][][]int{append(same, []int{1}), {{1, 2}}, {nil}} {
		e1 := errOf(Holds(1, rows, Dep{}))
		e2 := errOf(Mine(1, rows))
		if e1 != api.ErrArg || e2 != api.ErrArg {
			t.Error(len(rows), e1, e2)
		}
	}
	e1 := errOf(Holds(0, nil, Dep{}))
	e2 := errOf(Mine(9, nil))
	if e1 != api.ErrArg || e2 != api.ErrArg {
		t.Error(e1, e2)
	}
}

func TestMine(t *testing.T) {
	l, e := Mine(2, [][]int{{0, 0}, {1, 0}})
	want(t, "Mine", l, e, []Dep{{0, 2}}, api.OK)
	l, e = Mine(2, nil)
	want(t, "no rows", l, e, []Dep{{0, 3}}, api.OK)
	r := rand.New(rand.NewSource(2))
	for range 300 {
		n := 1 + r.Intn(4)
		rows := someRows(r, n)
		l, e := Mine(n, rows)
		allDeps(n, func(d Dep) {
			ok, f := Holds(n, rows, d)
			if ok != slowFollows(n, l, d) || e != api.OK || f != api.OK {
				t.Error(rows, l, d, ok, e, f)
			}
		})
		again := critical(n, closer(l))
		want(t, "the least base of Mine", again, api.OK, l, api.OK)
	}
}

func TestArmstrong(t *testing.T) {
	rows, e := Armstrong(1, nil)
	want(t, "Armstrong", rows, e, [][]int{{0}, {1}}, api.OK)
	rows, e = Armstrong(3, chain)
	want(t, "Armstrong of a chain", rows, e, [][]int{{0, 0, 0}, {1, 1, 1}, {2, 2, 0}, {3, 0, 0}}, api.OK)
	rows, e = Armstrong(8, nil)
	if len(rows) != 256 || e != api.OK {
		t.Error(len(rows), e)
	}
	sample(func(r *rand.Rand, n int, l []Dep) {
		rows, _ := Armstrong(n, l)
		allDeps(n, func(d Dep) {
			if ok, _ := Holds(n, rows, d); ok != slowFollows(n, l, d) {
				t.Error(l, rows, d)
			}
		})
	})
}
