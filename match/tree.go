package match

import "cubeb/api"

// earTree takes atoms away as long as it can be done, and returns the set of those that are left, with the parents of the others.
func earTree(q Query) (int, []int) {
	vars := make([]int, len(q.Body))
	parent := make([]int, len(q.Body))
	for i, a := range q.Body {
		vars[i] = a.variables()
		parent[i] = -1
	}
	left := 1<<len(q.Body) - 1
	for {
		dropLonely(vars, left)
		ear, host := lastEar(vars, left)
		if ear < 0 {
			return left, parent
		}
		parent[ear] = host
		left &^= 1 << ear
	}
}

// dropLonely deletes the variables that occur in one of the atoms that are left alone.
func dropLonely(vars []int, left int) {
	once, twice := 0, 0
	for i, v := range vars {
		if left>>i&1 == 1 {
			twice |= once & v
			once |= v
		}
	}
	for i := range vars {
		vars[i] &= twice
	}
}

// lastEar returns the last atom that is left whose variables all occur in another one, and that one; -1 if there is none.
func lastEar(vars []int, left int) (ear, host int) {
	for i := len(vars) - 1; i >= 0; i-- {
		for j := range vars {
			if i != j && left>>i&1 == 1 && left>>j&1 == 1 && vars[i]&^vars[j] == 0 {
				return i, j
			}
		}
	}
	return -1, -1
}

// Rest returns what is left of a query that is not acyclic.
func Rest(q Query) (int, api.Errno) {
	if !q.valid() {
		return 0, api.ErrArg
	}
	left, _ := earTree(q)
	if left&(left-1) == 0 {
		return 0, api.OK
	}
	return left, api.OK
}

// JoinTree returns a join tree.
func JoinTree(q Query) ([]int, api.Errno) {
	if !q.valid() {
		return nil, api.ErrArg
	}
	left, parent := earTree(q)
	if left&(left-1) != 0 {
		return nil, api.ErrLoop
	}
	return parent, api.OK
}

// CheckTree reports whether parents are a join tree.
func CheckTree(q Query, parent []int) (bool, api.Errno) {
	if !q.valid() {
		return false, api.ErrArg
	}
	if len(parent) != len(q.Body) || !isTree(parent) {
		return false, api.OK
	}
	for v := range api.MaxVars {
		if !connected(q, parent, v) {
			return false, api.OK
		}
	}
	return true, api.OK
}

// isTree reports whether parents are without cycles, with one root.
func isTree(parent []int) bool {
	roots := 0
	for _, p := range parent {
		if p < -1 || p >= len(parent) {
			return false
		}
		if p == -1 {
			roots++
		}
	}
	for i := range parent {
		if !climbs(parent, i) {
			return false
		}
	}
	return roots == 1
}

// climbs reports whether the parents of i lead to a root.
func climbs(parent []int, i int) bool {
	for range parent {
		i = parent[i]
		if i == -1 {
			return true
		}
	}
	return false
}

// connected reports whether the atoms in which v occurs hang together: just one of them, if any, has a parent without v.
func connected(q Query, parent []int, v int) bool {
	has := func(i int) bool { return i >= 0 && q.Body[i].variables()>>v&1 == 1 }
	tops := 0
	for i := range q.Body {
		if has(i) && !has(parent[i]) {
			tops++
		}
	}
	return tops <= 1
}
