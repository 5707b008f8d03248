// Package depend is layer 1: it decides which dependencies between the columns of a table follow from others.
package depend

import "cubeb/api"

// Dep is a dependency between sets of attributes.
type Dep struct{ From, To int }

// Step is a step of a proof.
type Step struct {
	Rule, I, J int
	Dep        Dep
}

// The rules of a proof.
const (
	given = iota
	reflexive
	augment
	transitive
)

const maxSteps = 100

// contains reports whether every element of part is one of set.
func contains(set, part int) bool { return part&^set == 0 }

func full(n int) int { return 1<<n - 1 }

// valid reports whether n is a number of attributes, l are dependencies, and all of sets are sets.
func valid(n int, l []Dep, sets ...int) bool {
	if n < 1 || n > api.MaxAttrs || len(l) > api.MaxDeps {
		return false
	}
	isSet := func(s int) bool { return s >= 0 && s <= full(n) }
	for _, d := range l {
		if !isSet(d.From) || !isSet(d.To) {
			return false
		}
	}
	for _, s := range sets {
		if !isSet(s) {
			return false
		}
	}
	return true
}

// closer returns the function that closes sets under l.
func closer(l []Dep) func(int) int {
	return func(set int) int {
		for changed := true; changed; {
			changed = false
			for _, d := range l {
				if contains(set, d.From) && !contains(set, d.To) {
					set |= d.To
					changed = true
				}
			}
		}
		return set
	}
}

// Closure returns the closure of a set.
func Closure(n int, l []Dep, set int) (int, api.Errno) {
	if !valid(n, l, set) {
		return 0, api.ErrArg
	}
	return closer(l)(set), api.OK
}

// Follows reports whether a dependency follows.
func Follows(n int, l []Dep, d Dep) (bool, api.Errno) {
	if !valid(n, l, d.From, d.To) {
		return false, api.ErrArg
	}
	return follows(l, d), api.OK
}

func follows(l []Dep, d Dep) bool { return contains(closer(l)(d.From), d.To) }

// Prove returns a proof.
func Prove(n int, l []Dep, d Dep) ([]Step, api.Errno) {
	if !valid(n, l, d.From, d.To) {
		return nil, api.ErrArg
	}
	if !follows(l, d) {
		return nil, api.ErrNone
	}
	p := []Step{{Rule: reflexive, Dep: Dep{d.From, d.From}}}
	for changed := true; changed; {
		changed = false
		for i, g := range l {
			have := p[len(p)-1].Dep.To
			if contains(have, g.From) && !contains(have, g.To) {
				p = extend(p, i, g)
				changed = true
			}
		}
	}
	return finish(p, d), api.OK
}

// extend adds the steps by which the set that the last step reaches gets the To of the given dependency g.
func extend(p []Step, i int, g Dep) []Step {
	last := len(p) - 1
	have := p[last].Dep.To
	more := have | g.To
	return append(p,
		Step{given, i, 0, g},
		Step{augment, last + 1, have, Dep{have, more}},
		Step{transitive, last, last + 2, Dep{p[last].Dep.From, more}})
}

// finish narrows what the last step reaches to the To of d.
func finish(p []Step, d Dep) []Step {
	last := len(p) - 1
	if p[last].Dep == d {
		return p
	}
	return append(p,
		Step{reflexive, 0, 0, Dep{p[last].Dep.To, d.To}},
		Step{transitive, last, last + 1, d})
}

// Check reports whether p is a proof.
func Check(n int, l []Dep, p []Step) (bool, api.Errno) {
	if !valid(n, l) {
		return false, api.ErrArg
	}
	if len(p) < 1 || len(p) > maxSteps {
		return false, api.OK
	}
	for i, s := range p {
		if !valid(n, l, s.Dep.From, s.Dep.To) || !stepHolds(n, l, p[:i], s) {
			return false, api.OK
		}
	}
	return true, api.OK
}

// stepHolds reports whether s may stand behind the steps before it.
func stepHolds(n int, l []Dep, before []Step, s Step) bool {
	earlier := func(i int) bool { return i >= 0 && i < len(before) }
	switch s.Rule {
	case given:
		return s.I >= 0 && s.I < len(l) && s.J == 0 && s.Dep == l[s.I]
	case reflexive:
		return s.I == 0 && s.J == 0 && contains(s.Dep.From, s.Dep.To)
	case augment:
		if !earlier(s.I) || !valid(n, l, s.J) {
			return false
		}
		d := before[s.I].Dep
		return s.Dep == Dep{d.From | s.J, d.To | s.J}
	case transitive:
		if !earlier(s.I) || !earlier(s.J) {
			return false
		}
		first, second := before[s.I].Dep, before[s.J].Dep
		return first.To == second.From && s.Dep == Dep{first.From, second.To}
	}
	return false
}

// Refute returns a table in which a dependency does not hold.
func Refute(n int, l []Dep, d Dep) ([][]int, api.Errno) {
	if !valid(n, l, d.From, d.To) {
		return nil, api.ErrArg
	}
	if follows(l, d) {
		return nil, api.ErrNone
	}
	return [][]int{make([]int, n), rowOutside(n, closer(l)(d.From), 1)}, api.OK
}

// rowOutside returns a row that is 0 in the set, and x elsewhere.
func rowOutside(n, set, x int) []int {
	row := make([]int, n)
	for a := range row {
		if set>>a&1 == 0 {
			row[a] = x
		}
	}
	return row
}

// Keys returns all keys.
func Keys(n int, l []Dep) ([]int, api.Errno) {
	if !valid(n, l) {
		return nil, api.ErrArg
	}
	closure := closer(l)
	var keys []int
	for set := 0; set <= full(n); set++ {
		// A part of a set is the lesser number, so the keys in the set have been found before.
		if closure(set) == full(n) && !containsOne(set, keys) {
			keys = append(keys, set)
		}
	}
	return keys, api.OK
}

func containsOne(set int, parts []int) bool {
	for _, p := range parts {
		if contains(set, p) {
			return true
		}
	}
	return false
}

// Critical returns the least base.
func Critical(n int, l []Dep) ([]Dep, api.Errno) {
	if !valid(n, l) {
		return nil, api.ErrArg
	}
	return critical(n, closer(l)), api.OK
}

// critical returns the least base of what a closure says.
func critical(n int, closure func(int) int) []Dep {
	var base []Dep
	// A part of a set is the lesser number, so all critical sets that are parts of it are in base by then.
	isCritical := func(set int) bool {
		if closure(set) == set {
			return false
		}
		for _, d := range base {
			if contains(set, d.From) && !contains(set, d.To) {
				return false
			}
		}
		return true
	}
	for set := 0; set <= full(n); set++ {
		if isCritical(set) {
			base = append(base, Dep{set, closure(set)})
		}
	}
	return base
}
