package history

import "cubeb/api"

// snapshots is a history that is read as one of snapshots; the sets of items have a bit for each.
type snapshots struct {
	lives
	writes  [txns]int
	foreign [txns]int // what is read, not from the transaction's own write
	l       []int     // the committed transactions
}

func snapshotsOf(h History) *snapshots {
	s := &snapshots{lives: livesOf(h)}
	s.l = s.committed()
	for _, o := range h {
		switch o.Kind {
		case read:
			s.foreign[o.Txn] |= 1 << o.Item &^ s.writes[o.Txn]
		case write:
			s.writes[o.Txn] |= 1 << o.Item
		}
	}
	return s
}

// overlap reports whether two committed transactions overlap.
func (s *snapshots) overlap(a, b int) bool {
	return s.begin[a] < s.commit[b] && s.begin[b] < s.commit[a]
}

// pairs calls f with any two different committed transactions.
func (s *snapshots) pairs(f func(a, b int)) {
	for _, a := range s.l {
		for _, b := range s.l {
			if a != b {
				f(a, b)
			}
		}
	}
}

func (s *snapshots) allowed() bool {
	ok := true
	s.pairs(func(a, b int) {
		if s.overlap(a, b) && s.writes[a]&s.writes[b] != 0 {
			ok = false
		}
	})
	return ok
}

// lastBefore returns the transaction that committed last, before index i, of those that write the item, or 0.
func (s *snapshots) lastBefore(item, i int) int {
	last := 0
	for _, t := range s.l {
		if s.writes[t]>>item&1 == 1 && s.commit[t] < i && (last == 0 || s.commit[t] > s.commit[last]) {
			last = t
		}
	}
	return last
}

// reads reports whether b reads what a wrote.
func (s *snapshots) reads(a, b int) bool {
	for item := range items {
		if s.foreign[b]>>item&1 == 1 && s.lastBefore(item, s.begin[b]) == a {
			return true
		}
	}
	return false
}

// misses reports whether a reads an item, but not what b wrote there: an a-edge.
func (s *snapshots) misses(a, b int) bool {
	return s.foreign[a]&s.writes[b] != 0 && s.commit[b] > s.begin[a]
}

func (s *snapshots) edges() *edges {
	e := &edges{}
	s.pairs(func(a, b int) {
		rewrites := s.writes[a]&s.writes[b] != 0 && s.commit[a] < s.commit[b]
		if rewrites || s.reads(a, b) || s.misses(a, b) {
			e.add(a, b)
		}
	})
	return e
}

// Snapshot reports whether h is allowed by snapshots.
func Snapshot(h History) (bool, api.Errno) {
	if !Valid(h) {
		return false, api.ErrArg
	}
	return snapshotsOf(h).allowed(), api.OK
}

// SnapshotOrder returns the first order under snapshots.
func SnapshotOrder(h History) ([]int, api.Errno) {
	if !Valid(h) {
		return nil, api.ErrArg
	}
	s := snapshotsOf(h)
	if !s.allowed() {
		return nil, api.ErrState
	}
	order, ok := s.edges().firstOrder(s.l)
	if !ok {
		return nil, api.ErrNone
	}
	return order, api.OK
}

// Danger returns all dangerous pairs.
func Danger(h History) ([][3]int, api.Errno) {
	if !Valid(h) {
		return nil, api.ErrArg
	}
	s := snapshotsOf(h)
	if !s.allowed() {
		return nil, api.ErrState
	}
	var l [][3]int
	s.pairs(func(x, y int) {
		if !s.overlap(x, y) || !s.misses(x, y) {
			return
		}
		for _, z := range s.l {
			if z != y && s.overlap(y, z) && s.misses(y, z) {
				l = append(l, [3]int{x, y, z})
			}
		}
	})
	return l, api.OK
}
