package history

import (
	"slices"

	"cubeb/api"
)

// edges has, for each transaction, the set of those that must stand behind it.
type edges [txns]int

func (e *edges) add(a, b int) { e[a] |= 1 << b }

func (e *edges) has(a, b int) bool { return e[a]>>b&1 == 1 }

// firstOrder returns the first order of the transactions, which rise, that agrees with all edges, and false if there is none.
func (e *edges) firstOrder(l []int) ([]int, bool) {
	left := slices.Clone(l)
	var order []int
	for len(left) > 0 {
		i := slices.IndexFunc(left, func(b int) bool {
			return !slices.ContainsFunc(left, func(a int) bool { return e.has(a, b) })
		})
		if i < 0 {
			return nil, false
		}
		order = append(order, left[i])
		left = slices.Delete(left, i, i+1)
	}
	return order, true
}

// conflictsOf returns an edge for every conflict of two committed transactions.
func conflictsOf(h History, v lives) *edges {
	e := &edges{}
	for i, o := range h {
		for _, p := range h[:i] {
			if v.commit[o.Txn] != never && v.commit[p.Txn] != never && p.conflicts(o) {
				e.add(p.Txn, o.Txn)
			}
		}
	}
	return e
}

// Order returns the first equivalent order.
func Order(h History) ([]int, api.Errno) {
	if !Valid(h) {
		return nil, api.ErrArg
	}
	v := livesOf(h)
	order, ok := conflictsOf(h, v).firstOrder(v.committed())
	if !ok {
		return nil, api.ErrLoop
	}
	return order, api.OK
}

// Cycle returns the first cycle of conflicts.
func Cycle(h History) ([]int, api.Errno) {
	if !Valid(h) {
		return nil, api.ErrArg
	}
	v := livesOf(h)
	e, l := conflictsOf(h, v), v.committed()
	for size := range len(l) + 1 {
		if c := e.cycle(l, nil, size); c != nil {
			return c, api.OK
		}
	}
	return nil, api.ErrNone
}

// cycle returns the first cycle of so many transactions that begins with the given ones, or nil.
func (e *edges) cycle(l, begun []int, size int) []int {
	n := len(begun)
	if n == size {
		if n > 1 && e.has(begun[n-1], begun[0]) {
			return slices.Clone(begun)
		}
		return nil
	}
	for _, t := range l {
		if slices.Contains(begun, t) || n > 0 && !e.has(begun[n-1], t) {
			continue
		}
		if c := e.cycle(l, append(begun, t), size); c != nil {
			return c
		}
	}
	return nil
}

// view is what the reads of a history read from, and the last writer of each item.
type view struct {
	reads [api.MaxOps]int
	last  [items]int
}

// do lets operation i of h come next.
func (w *view) do(h History, i int) {
	switch o := h[i]; o.Kind {
	case read:
		w.reads[i] = w.last[o.Item]
	case write:
		w.last[o.Item] = o.Txn
	}
}

func (w *view) equals(x *view) bool { return w.reads == x.reads && w.last == x.last }

// View returns the first view equivalent order.
func View(h History) ([]int, api.Errno) {
	if !Valid(h) {
		return nil, api.ErrArg
	}
	v := livesOf(h)
	goal := &view{}
	for i, o := range h {
		if v.commit[o.Txn] != never {
			goal.do(h, i)
		}
	}
	order, ok := firstView(h, goal, v.committed(), nil, view{})
	if !ok {
		return nil, api.ErrNone
	}
	return order, api.OK
}

// firstView returns the first order that begins with the given one, after which the view is as it is now, and ends with the goal.
func firstView(h History, goal *view, left, order []int, now view) ([]int, bool) {
	if len(left) == 0 {
		return slices.Clone(order), now.equals(goal)
	}
	for i, t := range left {
		next := now
		for j, o := range h {
			if o.Txn == t {
				next.do(h, j)
			}
		}
		rest := slices.Delete(slices.Clone(left), i, i+1)
		if l, ok := firstView(h, goal, rest, append(order, t), next); ok {
			return l, true
		}
	}
	return nil, false
}
