package house

import (
	"cubeb/api"
	"cubeb/history"
)

const (
	maxCalls  = 12
	clerks    = 4
	maxInTxn  = 6
	endOfTxn  = "end"
	noTxn     = 0
	readKind  = 0
	writeKind = 1
	endKind   = 2
)

// day is the calls of a day, and the transaction of each of them, noTxn for one that is left out.
type day struct {
	calls  []Call
	txns   []int
	orders []order // of the calls that are no end
}

// newDay returns a day, and false if its calls are not valid.
func newDay(l []Call) (*day, bool) {
	if len(l) > maxCalls {
		return nil, false
	}
	d := &day{calls: l, txns: make([]int, len(l)), orders: make([]order, len(l))}
	for i, c := range l {
		if c.Clerk < 0 || c.Clerk >= clerks {
			return nil, false
		}
		if c.Line == endOfTxn {
			continue
		}
		o, ok := parse(c.Line)
		if !ok {
			return nil, false
		}
		d.orders[i] = o
	}
	return d, d.number()
}

// number gives the transactions their numbers, in the order of their first lines, and reports whether none of them has too many lines.
func (d *day) number() bool {
	next := noTxn + 1
	for i, c := range d.calls {
		if d.txns[i] != noTxn || c.Line == endOfTxn {
			continue
		}
		lines, ended := d.together(i)
		if !ended {
			continue
		}
		if len(lines) > maxInTxn+1 {
			return false
		}
		for _, j := range lines {
			d.txns[j] = next
		}
		next++
	}
	return true
}

// together returns the calls of the clerk of call i from it to the next end, and whether there is one.
func (d *day) together(i int) ([]int, bool) {
	var l []int
	for j := i; j < len(d.calls); j++ {
		if d.calls[j].Clerk != d.calls[i].Clerk {
			continue
		}
		l = append(l, j)
		if d.calls[j].Line == endOfTxn {
			return l, true
		}
	}
	return l, false
}

// history returns what the transactions do, in the order of the calls.
func (d *day) history() history.History {
	var h history.History
	for i, t := range d.txns {
		if t == noTxn {
			continue
		}
		if d.calls[i].Line == endOfTxn {
			h = append(h, history.Op{Txn: t, Kind: endKind})
			continue
		}
		items := d.orders[i].items()
		for _, kind := range []int{readKind, writeKind} {
			for _, item := range items {
				h = append(h, history.Op{Txn: t, Kind: kind, Item: item})
			}
		}
	}
	return h
}

// lines returns the lines of a transaction.
func (d *day) lines(txn int) []string {
	var l []string
	for i, t := range d.txns {
		if t == txn && d.calls[i].Line != endOfTxn {
			l = append(l, d.calls[i].Line)
		}
	}
	return l
}

// Day does the transactions of some clerks.
func (h *House) Day(l []Call) ([]string, api.Errno) {
	if e := h.ready(); e != api.OK {
		return nil, e
	}
	d, ok := newDay(l)
	if !ok {
		return nil, api.ErrArg
	}
	// A history that is too long, or has too many transactions, is none.
	done, _, e := history.Lock(d.history())
	if e != api.OK {
		return nil, api.ErrArg
	}
	var replies []string
	for _, o := range done {
		if o.Kind != endKind {
			continue
		}
		some, e := h.doAll(d.lines(o.Txn))
		if e != api.OK {
			return nil, e
		}
		replies = append(replies, some...)
	}
	return replies, api.OK
}

// doAll makes the changes of a transaction, and passes over those that have an error of their own.
func (h *House) doAll(lines []string) ([]string, api.Errno) {
	var replies []string
	for _, s := range lines {
		o, e := h.admit(s)
		if e != api.OK {
			replies = append(replies, "!")
			continue
		}
		reply, e := h.record(o, s)
		if e != api.OK {
			return nil, e
		}
		replies = append(replies, reply)
	}
	return replies, api.OK
}
