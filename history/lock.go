package history

import "cubeb/api"

// locks has, for each item, the sets of the transactions that hold a lock of it.
type locks struct {
	shared, exclusive [items]int
}

// hinderers returns the set of the transactions whose locks hinder o.
func (l *locks) hinderers(o Op) int {
	if o.isEnd() {
		return 0
	}
	set := l.exclusive[o.Item]
	if o.Kind == write {
		set |= l.shared[o.Item]
	}
	return set &^ (1 << o.Txn)
}

func (l *locks) take(o Op) {
	if o.Kind == write {
		l.exclusive[o.Item] |= 1 << o.Txn
	} else {
		l.shared[o.Item] |= 1 << o.Txn
	}
}

func (l *locks) release(t int) {
	for i := range items {
		l.shared[i] &^= 1 << t
		l.exclusive[i] &^= 1 << t
	}
}

// run does a history under locks.
type run struct {
	locks
	h       History
	held    [txns][]int // the operations of each transaction that were held back; it waits if there are any
	dead    [txns]bool  // aborted for a cycle
	done    History
	aborted []int
}

// Lock does a history under locks.
func Lock(h History) (History, []int, api.Errno) {
	if !Valid(h) {
		return nil, nil, api.ErrArg
	}
	r := &run{h: h}
	for i, o := range h {
		switch {
		case r.dead[o.Txn]:
		case len(r.held[o.Txn]) > 0:
			r.held[o.Txn] = append(r.held[o.Txn], i)
		default:
			r.step(i)
			r.goOn()
		}
	}
	return r.done, r.aborted, api.OK
}

// step does operation i, or lets its transaction wait for it, or abort.
func (r *run) step(i int) {
	o := r.h[i]
	if r.hinderers(o) != 0 {
		r.held[o.Txn] = append(r.held[o.Txn], i)
		if r.waitsForItself(o.Txn) {
			r.held[o.Txn] = nil
			r.dead[o.Txn] = true
			r.aborted = append(r.aborted, o.Txn)
			r.end(Op{o.Txn, abort, 0})
		}
		return
	}
	if o.isEnd() {
		r.end(o)
		return
	}
	r.take(o)
	r.done = append(r.done, o)
}

func (r *run) end(o Op) {
	r.done = append(r.done, o)
	r.release(o.Txn)
}

// waitsForItself reports whether t is in a cycle of transactions that wait for each other. There is no other cycle: a lock goes to a transaction that does not wait, so a cycle is closed only when one begins to.
func (r *run) waitsForItself(t int) bool {
	reached := r.waitsFor(t)
	for range txns {
		for u := range txns {
			if reached>>u&1 == 1 {
				reached |= r.waitsFor(u)
			}
		}
	}
	return reached>>t&1 == 1
}

// waitsFor returns the set of the transactions for which t waits.
func (r *run) waitsFor(t int) int {
	if len(r.held[t]) == 0 {
		return 0
	}
	return r.hinderers(r.h[r.held[t][0]])
}

// goOn lets the waiting transactions go on, as long as one can.
func (r *run) goOn() {
	for t := r.next(); t != 0; t = r.next() {
		held := r.held[t]
		r.held[t] = nil
		for len(held) > 0 && len(r.held[t]) == 0 && !r.dead[t] {
			r.step(held[0])
			held = held[1:]
		}
		if !r.dead[t] {
			r.held[t] = append(r.held[t], held...)
		}
	}
}

// next returns, of the waiting transactions that can go on, the one whose waiting operation is first in the history, or 0.
func (r *run) next() int {
	best, first := 0, never
	for t, held := range r.held {
		if len(held) > 0 && held[0] < first && r.waitsFor(t) == 0 {
			best, first = t, held[0]
		}
	}
	return best
}
