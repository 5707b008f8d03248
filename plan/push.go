package plan

import "cubeb/api"

const maxPushed = 16 // nodes of an expression that is pushed

// Push returns an equal expression that is pushed.
func Push(d Data, e Expr) (Expr, api.Errno) {
	if _, errno := Type(d, e); errno != api.OK {
		return Expr{}, errno
	}
	if n, _ := nodesOf(e); n > maxPushed {
		return Expr{}, api.ErrSize
	}
	return d.push(copyExpr(e)), api.OK
}

// push returns e pushed; e may be changed.
func (d Data) push(e Expr) Expr {
	for i, k := range e.Kids {
		e.Kids[i] = d.push(k)
	}
	if opOf(e.Op) != opWhere {
		return e
	}
	return d.sink(*e.Test, e.Kids[0])
}

// sink returns e, which is pushed, with a Test of its rows as far below as it must be.
func (d Data) sink(t Test, e Expr) Expr {
	if t.Op == "and" {
		return d.sink(t.Kids[0], d.sink(t.Kids[1], e))
	}
	switch opOf(e.Op) {
	case opWhere, opMinus:
		// What the second Kid of minus has beside the Test's rows takes nothing away.
		e.Kids[0] = d.sink(t, e.Kids[0])
		return e
	case opName:
		e.Kids[0] = d.sink(withName(t, e.Names[1], e.Names[0]), e.Kids[0])
		return e
	case opPlus:
		e.Kids[0] = d.sink(t, e.Kids[0])
		e.Kids[1] = d.sink(copyTest(t), e.Kids[1])
		return e
	case opJoin:
		if i := d.kidWithAll(t, e.Kids); i >= 0 {
			e.Kids[i] = d.sink(t, e.Kids[i])
			return e
		}
	}
	return Expr{Op: opNames[opWhere], Kids: []Expr{e}, Test: &t}
}

// withName returns t with the column from called to.
func withName(t Test, from, to string) Test {
	c := copyTest(t)
	for i, k := range c.Kids {
		c.Kids[i] = withName(k, from, to)
	}
	if c.Left == from {
		c.Left = to
	}
	if c.Right == from {
		c.Right = to
	}
	return c
}

// kidWithAll returns the first Kid that has all columns that a Test uses, or -1.
func (d Data) kidWithAll(t Test, kids []Expr) int {
	for i, k := range kids {
		columns, _ := d.typeOf(k)
		if _, ok := choose(columns, uses(t)); ok {
			return i
		}
	}
	return -1
}

// Pushed reports whether an expression is pushed.
func Pushed(d Data, e Expr) (bool, api.Errno) {
	if _, errno := Type(d, e); errno != api.OK {
		return false, errno
	}
	return d.isPushed(e), api.OK
}

func (d Data) isPushed(e Expr) bool {
	for _, k := range e.Kids {
		if !d.isPushed(k) {
			return false
		}
	}
	if opOf(e.Op) != opWhere {
		return true
	}
	below := e.Kids[0]
	for opOf(below.Op) == opWhere {
		below = below.Kids[0]
	}
	switch opOf(below.Op) {
	case opTable, opKeep, opCount:
		return e.Test.Op != "and"
	case opJoin:
		return e.Test.Op != "and" && d.kidWithAll(*e.Test, below.Kids) < 0
	}
	return false
}
