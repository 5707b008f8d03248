package plan

import "slices"

// indexOf returns the index of the column of a name, or -1.
func indexOf(l []Column, name string) int {
	return slices.IndexFunc(l, func(c Column) bool { return c.Name == name })
}

// choose returns the columns of the names, in their order, and false if one is not there.
func choose(l []Column, names []string) ([]Column, bool) {
	var chosen []Column
	for _, n := range names {
		i := indexOf(l, n)
		if i < 0 {
			return nil, false
		}
		chosen = append(chosen, l[i])
	}
	return chosen, true
}

// typeOf returns the type of a well formed expression, and false if it has none.
func (d Data) typeOf(e Expr) ([]Column, bool) {
	var kids [][]Column
	for _, k := range e.Kids {
		c, ok := d.typeOf(k)
		if !ok {
			return nil, false
		}
		kids = append(kids, c)
	}
	switch opOf(e.Op) {
	case opTable:
		t, ok := d[e.Name]
		return slices.Clone(t.Columns), ok
	case opWhere:
		return kids[0], fits(*e.Test, kids[0])
	case opKeep:
		return choose(kids[0], e.Names)
	case opName:
		return renamed(kids[0], e.Names[0], e.Names[1])
	case opJoin:
		return joined(kids[0], kids[1])
	case opCount:
		c, ok := choose(kids[0], e.Names)
		return append(c, Column{Name: e.Name}), ok && !slices.Contains(e.Names, e.Name)
	}
	return kids[0], slices.Equal(kids[0], kids[1])
}

// renamed returns the columns, of which the one of the name from has the name to.
func renamed(l []Column, from, to string) ([]Column, bool) {
	i := indexOf(l, from)
	if i < 0 || indexOf(l, to) >= 0 {
		return nil, false
	}
	c := slices.Clone(l)
	c[i].Name = to
	return c, true
}

// joined returns the columns of a join.
func joined(a, b []Column) ([]Column, bool) {
	l := slices.Clone(a)
	for _, c := range b {
		i := indexOf(a, c.Name)
		if i >= 0 && a[i] != c {
			return nil, false
		}
		if i < 0 {
			l = append(l, c)
		}
	}
	return l, len(l) <= maxColumns
}

// fits reports whether all columns of a Test are there, and it compares nothing with what is of another kind.
func fits(t Test, l []Column) bool {
	for _, k := range t.Kids {
		if !fits(k, l) {
			return false
		}
	}
	if len(t.Kids) > 0 {
		return true
	}
	left, ok := kindOf(t.Left, l)
	right, also := kindOf(t.Right, l)
	return ok && also && left == right
}

// kindOf reports whether an operand is a text, and whether it is there at all.
func kindOf(operand string, l []Column) (text, ok bool) {
	if _, isQuoted := quoted(operand); isQuoted {
		return true, true
	}
	if !isName(operand) {
		return false, true
	}
	i := indexOf(l, operand)
	return i >= 0 && l[i].Text, i >= 0
}

// uses returns the names of the columns that a Test uses.
func uses(t Test) []string {
	var l []string
	for _, k := range t.Kids {
		l = append(l, uses(k)...)
	}
	if isName(t.Left) {
		l = append(l, t.Left)
	}
	if isName(t.Right) {
		l = append(l, t.Right)
	}
	return l
}
