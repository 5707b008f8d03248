package plan

import (
	"cmp"
	"slices"
	"strconv"
	"strings"

	"cubeb/api"
)

// Compile returns the plan of an expression.
func Compile(d Data, e Expr) ([]Instr, api.Errno) {
	if _, errno := Type(d, e); errno != api.OK {
		return nil, errno
	}
	return compile(copyExpr(e)), api.OK
}

func compile(e Expr) []Instr {
	var l []Instr
	for _, k := range e.Kids {
		l = append(l, compile(k)...)
	}
	return append(l, Instr{opOf(e.Op), e.Name, e.Names, e.Test, len(e.Kids)})
}

// decompile returns the expression of which compile makes l, and false if there is none.
func decompile(l []Instr) (Expr, bool) {
	var stack []Expr
	for _, in := range l {
		if in.Op < opTable || in.Op > opCount || in.N != shapeOf(in.Op).kids || in.N > len(stack) {
			return Expr{}, false
		}
		first := len(stack) - in.N
		kids := slices.Clone(stack[first:])
		stack = append(stack[:first], Expr{opNames[in.Op], in.Name, in.Names, kids, in.Test})
	}
	if len(stack) != 1 || !isWellFormed(stack[0]) {
		return Expr{}, false
	}
	return stack[0], true
}

// Run runs a plan.
func Run(d Data, l []Instr) (Table, api.Errno) {
	if len(l) > maxNodes {
		return Table{}, api.ErrArg
	}
	e, ok := decompile(l)
	if !ok {
		return Table{}, api.ErrArg
	}
	if _, errno := Type(d, e); errno != api.OK {
		return Table{}, api.ErrArg
	}
	m := &machine{data: d}
	return m.result(l)
}

// Eval returns the rows of an expression.
func Eval(d Data, e Expr) (Table, api.Errno) {
	if _, errno := Type(d, e); errno != api.OK {
		return Table{}, errno
	}
	m := &machine{data: d}
	return m.result(compile(e))
}

// Work returns the work of an expression.
func Work(d Data, e Expr) (int, api.Errno) {
	if _, errno := Type(d, e); errno != api.OK {
		return 0, errno
	}
	m := &machine{data: d}
	if _, errno := m.result(compile(e)); errno != api.OK {
		return 0, errno
	}
	return m.work, api.OK
}

// machine runs plans on a stack of tables.
type machine struct {
	data  Data
	stack []Table
	work  int // the rows of all tables that were on the stack
}

// result runs a plan, and returns the table that is left, with its rows rising.
func (m *machine) result(l []Instr) (Table, api.Errno) {
	for _, in := range l {
		first := len(m.stack) - in.N
		t := m.step(in, m.stack[first:])
		if len(t.Rows) > api.MaxRows {
			return Table{}, api.ErrSize
		}
		m.work += len(t.Rows)
		m.stack = append(m.stack[:first], t)
	}
	t := m.stack[0]
	slices.SortFunc(t.Rows, func(a, b []string) int { return compareRows(t.Columns, a, b) })
	return t, api.OK
}

// step does an instruction on the tables of its Kids. Its rows are new memory from opTable on.
func (m *machine) step(in Instr, kids []Table) Table {
	switch in.Op {
	case opTable:
		return m.data[in.Name].copied()
	case opWhere:
		return kids[0].where(*in.Test)
	case opKeep:
		return kids[0].keep(in.Names)
	case opName:
		c, _ := renamed(kids[0].Columns, in.Names[0], in.Names[1])
		return Table{c, kids[0].Rows}
	case opJoin:
		return kids[0].join(kids[1])
	case opPlus:
		return Table{kids[0].Columns, distinct(append(kids[0].Rows, kids[1].Rows...))}
	case opMinus:
		return kids[0].minus(kids[1])
	}
	return kids[0].count(in.Name, in.Names)
}

func (t Table) copied() Table {
	c := Table{Columns: slices.Clone(t.Columns)}
	for _, r := range t.Rows {
		c.Rows = append(c.Rows, slices.Clone(r))
	}
	return c
}

// compareRows compares rows value by value.
func compareRows(l []Column, a, b []string) int {
	for i, c := range l {
		if x := compareValues(c.Text, a[i], b[i]); x != 0 {
			return x
		}
	}
	return 0
}

func compareValues(text bool, a, b string) int {
	if text {
		return strings.Compare(a, b)
	}
	x, _ := strconv.Atoi(a)
	y, _ := strconv.Atoi(b)
	return cmp.Compare(x, y)
}

// distinct returns the rows, each once.
func distinct(rows [][]string) [][]string {
	seen := map[string]bool{}
	var l [][]string
	for _, r := range rows {
		if k := rowKey(r); !seen[k] {
			seen[k] = true
			l = append(l, r)
		}
	}
	return l
}

func (t Table) where(test Test) Table {
	w := Table{Columns: t.Columns}
	for _, r := range t.Rows {
		if t.holds(test, r) {
			w.Rows = append(w.Rows, r)
		}
	}
	return w
}

// holds reports whether a Test is true for a row.
func (t Table) holds(test Test, row []string) bool {
	switch test.Op {
	case "and":
		return t.holds(test.Kids[0], row) && t.holds(test.Kids[1], row)
	case "or":
		return t.holds(test.Kids[0], row) || t.holds(test.Kids[1], row)
	case "not":
		return !t.holds(test.Kids[0], row)
	}
	text, _ := kindOf(test.Left, t.Columns)
	x := compareValues(text, t.value(test.Left, row), t.value(test.Right, row))
	return test.Op == "=" && x == 0 || test.Op == "<" && x < 0
}

// value returns the value of an operand in a row.
func (t Table) value(operand string, row []string) string {
	if s, ok := quoted(operand); ok {
		return s
	}
	if i := indexOf(t.Columns, operand); i >= 0 {
		return row[i]
	}
	return operand
}

// places returns the indices of the columns of the names.
func (t Table) places(names []string) []int {
	var l []int
	for _, n := range names {
		l = append(l, indexOf(t.Columns, n))
	}
	return l
}

// pick returns the values at the places.
func pick(row []string, places []int) []string {
	l := make([]string, len(places))
	for i, p := range places {
		l[i] = row[p]
	}
	return l
}

func (t Table) keep(names []string) Table {
	c, _ := choose(t.Columns, names)
	places := t.places(names)
	var rows [][]string
	for _, r := range t.Rows {
		rows = append(rows, pick(r, places))
	}
	return Table{c, distinct(rows)}
}

func (t Table) minus(u Table) Table {
	there := map[string]bool{}
	for _, r := range u.Rows {
		there[rowKey(r)] = true
	}
	m := Table{Columns: t.Columns}
	for _, r := range t.Rows {
		if !there[rowKey(r)] {
			m.Rows = append(m.Rows, r)
		}
	}
	return m
}

// join joins two tables, but for rows that come behind more than are allowed.
func (t Table) join(u Table) Table {
	var common, others []string
	for _, c := range u.Columns {
		if indexOf(t.Columns, c.Name) >= 0 {
			common = append(common, c.Name)
		} else {
			others = append(others, c.Name)
		}
	}
	here, there, added := t.places(common), u.places(common), u.places(others)
	partners := map[string][][]string{}
	for _, r := range u.Rows {
		k := rowKey(pick(r, there))
		partners[k] = append(partners[k], pick(r, added))
	}
	j := Table{}
	j.Columns, _ = joined(t.Columns, u.Columns)
	for _, r := range t.Rows {
		for _, more := range partners[rowKey(pick(r, here))] {
			j.Rows = append(j.Rows, slices.Concat(r, more))
		}
		if len(j.Rows) > api.MaxRows {
			break
		}
	}
	return j
}

func (t Table) count(name string, names []string) Table {
	c, _ := choose(t.Columns, names)
	places := t.places(names)
	number := map[string]int{}
	var groups [][]string
	if len(names) == 0 {
		groups = append(groups, nil)
	}
	for _, r := range t.Rows {
		g := pick(r, places)
		groups = append(groups, g)
		number[rowKey(g)]++
	}
	counted := Table{Columns: append(c, Column{Name: name})}
	for _, g := range distinct(groups) {
		counted.Rows = append(counted.Rows, append(g, strconv.Itoa(number[rowKey(g)])))
	}
	return counted
}
