package repair

import (
	"slices"

	"cubeb/api"
	"cubeb/depend"
	"cubeb/match"
)

// form is what counts of a plain query for its attacks: for each atom the variables of its key, and all its variables.
type form struct {
	keys, vars []int
}

func variables(terms []int) int {
	set := 0
	for _, t := range terms {
		if t >= 0 {
			set |= 1 << t
		}
	}
	return set
}

// formOf returns the form of atoms, in which the variables of a set are variables no longer.
func formOf(schema []int, body []match.Atom, replaced int) form {
	var f form
	for _, a := range body {
		f.keys = append(f.keys, variables(a.Args[:schema[a.Rel]])&^replaced)
		f.vars = append(f.vars, variables(a.Args)&^replaced)
	}
	return f
}

// closure returns the closure of the key of atom i by the dependencies of the atoms that count.
func (f form) closure(i int, counts func(atom int) bool) int {
	var l []depend.Dep
	for j := range f.keys {
		if counts(j) {
			l = append(l, depend.Dep{From: f.keys[j], To: f.vars[j]})
		}
	}
	set, _ := depend.Closure(api.MaxVars, l, f.keys[i])
	return set
}

// attacked returns the set of the atoms that atom i attacks.
func (f form) attacked(i int) int {
	plus := f.closure(i, func(atom int) bool { return atom != i })
	reached := 1 << i
	for range f.vars {
		for j, v := range f.vars {
			for k, w := range f.vars {
				if reached>>j&1 == 1 && v&w&^plus != 0 {
					reached |= 1 << k
				}
			}
		}
	}
	return reached &^ (1 << i)
}

// isWeak reports whether an attack from atom i to atom j is weak.
func (f form) isWeak(i, j int) bool {
	all := f.closure(i, func(int) bool { return true })
	return f.keys[j]&^all == 0
}

// unattacked returns the first atom that no atom attacks, or -1.
func (f form) unattacked() int {
	attacked := 0
	for i := range f.keys {
		attacked |= f.attacked(i)
	}
	for i := range f.keys {
		if attacked>>i&1 == 0 {
			return i
		}
	}
	return -1
}

// hasCycle reports whether the attacks have a cycle.
func (f form) hasCycle() bool {
	left := 1<<len(f.keys) - 1
	for range f.keys {
		for i := range f.keys {
			// An atom that attacks none that is left is in no cycle of those that are left.
			if f.attacked(i)&left == 0 {
				left &^= 1 << i
			}
		}
	}
	return left != 0
}

// validFor reports whether q is a query whose atoms have all Args of their keys.
func validFor(schema []int, q match.Query) bool {
	if _, _, e := match.Freeze(q); e != api.OK || !validSchema(schema) {
		return false
	}
	isShort := func(a match.Atom) bool { return len(a.Args) < schema[a.Rel] }
	return !slices.ContainsFunc(q.Body, isShort)
}

func isPlain(q match.Query) bool {
	seen := 0
	for _, a := range q.Body {
		if seen>>a.Rel&1 == 1 {
			return false
		}
		seen |= 1 << a.Rel
	}
	return true
}

// Attacks returns all attacks of a query.
func Attacks(schema []int, q match.Query) ([][3]int, api.Errno) {
	if !validFor(schema, q) {
		return nil, api.ErrArg
	}
	if !isPlain(q) {
		return nil, api.ErrState
	}
	f := formOf(schema, q.Body, 0)
	var l [][3]int
	for i := range q.Body {
		for j := range q.Body {
			if f.attacked(i)>>j&1 == 0 {
				continue
			}
			if f.isWeak(i, j) {
				l = append(l, [3]int{i, j, 0})
			} else {
				l = append(l, [3]int{i, j, 1})
			}
		}
	}
	return l, api.OK
}

// numbers has the number by which each variable was replaced, or 0.
type numbers [api.MaxVars]int

// agree returns the numbers with those that f gives to the variables of a, if f agrees with a.
func (n numbers) agree(a match.Atom, f api.Fact) (numbers, bool) {
	if len(a.Args) != len(f.Args) {
		return n, false
	}
	for i, t := range a.Args {
		if t >= 0 && n[t] == 0 {
			n[t] = f.Args[i]
		}
		if t >= 0 && n[t] != f.Args[i] || t < 0 && -t != f.Args[i] {
			return n, false
		}
	}
	return n, true
}

// replaced returns the set of the variables that were replaced.
func (n numbers) replaced() int {
	set := 0
	for v, x := range n {
		if x != 0 {
			set |= 1 << v
		}
	}
	return set
}

// Rewrite reports whether a question is certain, without repairs.
func Rewrite(schema []int, facts []api.Fact, q match.Query) (bool, api.Errno) {
	b, ok := open(schema, facts)
	if !ok || len(q.Head) > 0 || !validFor(schema, q) {
		return false, api.ErrArg
	}
	if !isPlain(q) || formOf(schema, q.Body, 0).hasCycle() {
		return false, api.ErrState
	}
	return b.certain(q.Body, numbers{}), api.OK
}

// certain reports whether atoms are certain, of which some variables were replaced.
func (b *books) certain(body []match.Atom, n numbers) bool {
	if len(body) == 0 {
		return true
	}
	i := formOf(b.schema, body, n.replaced()).unattacked()
	if i < 0 {
		return false
	}
	others := slices.Delete(slices.Clone(body), i, i+1)
	// A block all of whose facts agree has the key, too.
	holds := func(f api.Fact) bool {
		next, ok := n.agree(body[i], f)
		return ok && b.certain(others, next)
	}
	for first, f := range b.facts {
		if f.Rel != body[i].Rel || b.blocks[first] != first {
			continue
		}
		if !slices.ContainsFunc(b.block(first), func(g api.Fact) bool { return !holds(g) }) {
			return true
		}
	}
	return false
}
