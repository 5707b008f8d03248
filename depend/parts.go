package depend

import "cubeb/api"

const maxParts = 8

// validParts reports whether parts are a decomposition.
func validParts(n int, parts []int) bool {
	if len(parts) < 1 || len(parts) > maxParts || !valid(n, nil, parts...) {
		return false
	}
	all := 0
	for _, p := range parts {
		all |= p
	}
	return all == full(n)
}

// Chase returns the last tableau.
func Chase(n int, l []Dep, parts []int) ([][]int, api.Errno) {
	if !valid(n, l) || !validParts(n, parts) {
		return nil, api.ErrArg
	}
	return chase(n, l, parts), api.OK
}

func chase(n int, l []Dep, parts []int) [][]int {
	var rows [][]int
	for i, p := range parts {
		rows = append(rows, rowOutside(n, p, i+1))
	}
	for changed := true; changed; {
		changed = false
		for _, d := range l {
			if applyDep(rows, d) {
				changed = true
			}
		}
	}
	return rows
}

// applyDep makes all rows that are equal in d's From equal in its To, and reports whether something changed.
func applyDep(rows [][]int, d Dep) bool {
	changed := false
	for i := range rows {
		for j := range i {
			equal := agreement(rows[j], rows[i])
			if !contains(equal, d.From) {
				continue
			}
			for a := range rows[i] {
				if (d.To&^equal)>>a&1 == 1 {
					replaceInColumn(rows, a, rows[j][a], rows[i][a])
					changed = true
				}
			}
		}
	}
	return changed
}

// replaceInColumn replaces the greater of x and y by the lesser one in column a.
func replaceInColumn(rows [][]int, a, x, y int) {
	for _, r := range rows {
		if r[a] == max(x, y) {
			r[a] = min(x, y)
		}
	}
}

// Lossless reports whether a decomposition is lossless.
func Lossless(n int, l []Dep, parts []int) (bool, api.Errno) {
	if !valid(n, l) || !validParts(n, parts) {
		return false, api.ErrArg
	}
	zeros := make([]int, n)
	for _, r := range chase(n, l, parts) {
		if agreement(r, zeros) == full(n) {
			return true, api.OK
		}
	}
	return false, api.OK
}

// Violation returns why a set is not in normal form.
func Violation(n int, l []Dep, set int) (Dep, api.Errno) {
	if !valid(n, l, set) {
		return Dep{}, api.ErrArg
	}
	if d, found := violation(closer(l), set); found {
		return d, api.OK
	}
	return Dep{}, api.ErrNone
}

// violation returns the dependency that shows that set is not in normal form, if there is one.
func violation(closure func(int) int, set int) (Dep, bool) {
	for x := range set {
		if !contains(set, x) {
			continue
		}
		reached := closure(x) & set
		if reached != set && reached != x {
			return Dep{x, reached &^ x}, true
		}
	}
	return Dep{}, false
}

// Decompose returns a decomposition in normal form.
func Decompose(n int, l []Dep) ([]int, api.Errno) {
	if !valid(n, l) {
		return nil, api.ErrArg
	}
	closure := closer(l)
	var done []int
	todo := []int{full(n)}
	// The first set that is not in normal form always stands in front of todo, so that splitting it there keeps the order.
	for len(todo) > 0 {
		set := todo[0]
		todo = todo[1:]
		d, found := violation(closure, set)
		if !found {
			done = append(done, set)
			continue
		}
		todo = append([]int{d.From | d.To, set &^ d.To}, todo...)
	}
	return done, api.OK
}
