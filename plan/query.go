package plan

import (
	"slices"
	"strconv"

	"cubeb/api"
	"cubeb/match"
)

// letters of the names of tables, columns and variables.
const letters = "abcdefgh"

func letter(i int) string { return letters[i : i+1] }

// nameOf returns the name of the column of a variable.
func nameOf(variable int) string { return "v" + letter(variable) }

// FromQuery returns the expression of a query.
func FromQuery(q match.Query) (Expr, api.Errno) {
	if !isTabular(q) {
		return Expr{}, api.ErrArg
	}
	left := slices.Clone(q.Body)
	e, have := fromAtom(left[0]), variablesOf(left[0])
	left = left[1:]
	for len(left) > 0 {
		i := nextAtom(left, have)
		e = Expr{Op: opNames[opJoin], Kids: []Expr{e, fromAtom(left[i])}}
		for _, v := range variablesOf(left[i]) {
			if !slices.Contains(have, v) {
				have = append(have, v)
			}
		}
		left = slices.Delete(left, i, i+1)
		e, have = narrow(e, have, q.Head, left)
	}
	return keepAll(e, q.Head), api.OK
}

// isTabular reports whether q is a query that has an expression.
func isTabular(q match.Query) bool {
	if _, _, e := match.Freeze(q); e != api.OK || len(q.Head) == 0 || hasTwice(q.Head) {
		return false
	}
	var args [6]int
	for _, a := range q.Body {
		if len(variablesOf(a)) == 0 || hasTwice(variablesOf(a)) {
			return false
		}
		if args[a.Rel] != 0 && args[a.Rel] != len(a.Args) {
			return false
		}
		args[a.Rel] = len(a.Args)
	}
	return true
}

func hasTwice(l []int) bool {
	for i, x := range l {
		if slices.Contains(l[:i], x) {
			return true
		}
	}
	return false
}

// variablesOf returns the variables of an atom, in order.
func variablesOf(a match.Atom) []int {
	var l []int
	for _, t := range a.Args {
		if t >= 0 {
			l = append(l, t)
		}
	}
	return l
}

// fromAtom returns the expression of an atom, whose columns are its variables.
func fromAtom(a match.Atom) Expr {
	e := Expr{Op: opNames[opTable], Name: "r" + letter(a.Rel)}
	for i, t := range a.Args {
		if t < 0 {
			test := &Test{Op: "=", Left: letter(i), Right: strconv.Itoa(-t)}
			e = Expr{Op: opNames[opWhere], Kids: []Expr{e}, Test: test}
		}
	}
	for i, t := range a.Args {
		if t >= 0 {
			e = Expr{Op: opNames[opName], Names: []string{letter(i), nameOf(t)}, Kids: []Expr{e}}
		}
	}
	if l := variablesOf(a); len(l) < len(a.Args) {
		e = keepAll(e, l)
	}
	return e
}

func keepAll(e Expr, variables []int) Expr {
	var names []string
	for _, v := range variables {
		names = append(names, nameOf(v))
	}
	return Expr{Op: opNames[opKeep], Names: names, Kids: []Expr{e}}
}

// nextAtom returns the first atom that has one of the variables, or else the first one, so that few rows come together that do not belong together.
func nextAtom(left []match.Atom, have []int) int {
	shares := func(a match.Atom) bool {
		return slices.ContainsFunc(variablesOf(a), func(v int) bool { return slices.Contains(have, v) })
	}
	return max(slices.IndexFunc(left, shares), 0)
}

// narrow keeps the variables that the Head or an atom that is left needs, but at least one.
func narrow(e Expr, have, head []int, left []match.Atom) (Expr, []int) {
	needed := func(v int) bool {
		hasIt := func(a match.Atom) bool { return slices.Contains(a.Args, v) }
		return slices.Contains(head, v) || slices.ContainsFunc(left, hasIt)
	}
	var kept []int
	for _, v := range have {
		if needed(v) {
			kept = append(kept, v)
		}
	}
	if len(kept) == 0 {
		kept = have[:1:1]
	}
	if len(kept) == len(have) || len(left) == 0 {
		return e, have
	}
	return keepAll(e, kept), kept
}
