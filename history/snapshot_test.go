package history

import (
	"math/rand"
	"slices"
	"testing"

	"cubeb/api"
)

// slowSnapshots answers the questions of snapshots from the words of the document.
type slowSnapshots struct{ h History }

func (s slowSnapshots) begin(t int) int {
	return slices.IndexFunc(s.h, func(o Op) bool { return o.Txn == t })
}

func (s slowSnapshots) commit(t int) int { return indexOf(s.h, Op{t, 2, 0}) }

func (s slowSnapshots) writes(t, item int) bool { return indexOf(s.h, Op{t, 1, item}) >= 0 }

// reads reports whether t reads the item, not from its own write.
func (s slowSnapshots) reads(t, item int) bool {
	i, j := indexOf(s.h, Op{t, 0, item}), indexOf(s.h, Op{t, 1, item})
	return i >= 0 && (j < 0 || i < j)
}

func (s slowSnapshots) overlap(a, b int) bool {
	return s.begin(a) < s.commit(b) && s.begin(b) < s.commit(a)
}

func (s slowSnapshots) anti(a, b int) bool {
	for item := range 6 {
		if a != b && s.reads(a, item) && s.writes(b, item) && s.commit(b) > s.begin(a) {
			return true
		}
	}
	return false
}

func (s slowSnapshots) edge(a, b int) bool {
	for item := range 6 {
		if s.writes(a, item) && s.writes(b, item) && s.commit(a) < s.commit(b) {
			return true
		}
		last := 0
		for i, o := range s.h {
			if o.Kind == 2 && s.writes(o.Txn, item) && i < s.begin(b) {
				last = o.Txn
			}
		}
		if s.reads(b, item) && last == a {
			return true
		}
	}
	return s.anti(a, b)
}

func TestSnapshot(t *testing.T) {
	for _, x := range []struct {
		h     string
		ok    bool
		order []int
		e     api.Errno
		pairs [][3]int
	}{
		{"r1x r1y r2x r2y w1x w2y c1 c2", true, nil, api.ErrNone, [][3]int{{1, 2, 1}, {2, 1, 2}}},
		{"w1x w2x c1 c2", false, nil, api.ErrState, nil},
		{"w1x c1 w2x c2", true, []int{1, 2}, api.OK, nil},
		{"w2x c2 w1x c1", true, []int{2, 1}, api.OK, nil},
		{"w1x w2x c1 a2", true, []int{1}, api.OK, nil},
		{"w1x w2x c1", true, []int{1}, api.OK, nil},
		{"r2y w1x r2x c1 c2", true, []int{2, 1}, api.OK, nil},
		{"w1x c1 r2x c2", true, []int{1, 2}, api.OK, nil},
		{"w2x r2x w1y r1x c1 c2", true, []int{1, 2}, api.OK, nil},
		{"", true, nil, api.OK, nil},
	} {
		h := parse(x.h)
		ok, e := Snapshot(h)
		want(t, "Snapshot of "+x.h, ok, e, x.ok, api.OK)
		order, e := SnapshotOrder(h)
		want(t, "SnapshotOrder of "+x.h, order, e, x.order, x.e)
		pairs, e := Danger(h)
		f := api.OK
		if !x.ok {
			f = api.ErrState
		}
		want(t, "Danger of "+x.h, pairs, e, x.pairs, f)
	}
}

func TestSnapshotSample(t *testing.T) {
	seen := [3]int{}
	sample(func(r *rand.Rand, h History) {
		s, all := slowSnapshots{h}, committedOf(h)
		allowed := true
		for _, a := range all {
			for _, b := range all {
				for item := range 6 {
					if a != b && s.overlap(a, b) && s.writes(a, item) && s.writes(b, item) {
						allowed = false
					}
				}
			}
		}
		ok, e := Snapshot(h)
		want(t, "Snapshot", ok, e, allowed, api.OK)
		order, e := SnapshotOrder(h)
		pairs, f := Danger(h)
		if !allowed {
			want(t, "SnapshotOrder", order, e, nil, api.ErrState)
			want(t, "Danger", pairs, f, nil, api.ErrState)
			return
		}
		var slow [][3]int
		for _, x := range all {
			for _, y := range all {
				for _, z := range all {
					if x != y && y != z && s.anti(x, y) && s.anti(y, z) && s.overlap(x, y) && s.overlap(y, z) {
						slow = append(slow, [3]int{x, y, z})
					}
				}
			}
		}
		want(t, "Danger", pairs, f, slow, api.OK)
		first := orders(all, func(l []int) bool { return agrees(l, s.edge) })
		if (e == api.OK) != (first != nil) || e != api.OK && e != api.ErrNone || !slices.Equal(order, first) {
			t.Error(h, order, e, first)
		}
		if len(pairs) == 0 && e != api.OK {
			t.Error("no dangerous pair, but no order", h)
		}
		seen[min(len(pairs), 1)]++
		if e != api.OK {
			seen[2]++
		}
	})
	if slices.Min(seen[:]) < 10 {
		t.Error("the samples are too much alike", seen)
	}
}
