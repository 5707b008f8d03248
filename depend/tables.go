package depend

import "cubeb/api"

const maxRows = 60

// validTable reports whether rows are a table of n attributes.
func validTable(n int, rows [][]int) bool {
	if len(rows) > maxRows {
		return false
	}
	for _, r := range rows {
		if len(r) != n {
			return false
		}
	}
	return true
}

// agreement returns the attributes in which two rows are equal.
func agreement(a, b []int) int {
	set := 0
	for i := range a {
		if a[i] == b[i] {
			set |= 1 << i
		}
	}
	return set
}

// agreements returns, for every two rows, the attributes in which they are equal.
func agreements(rows [][]int) []int {
	var l []int
	for i := range rows {
		for j := range i {
			l = append(l, agreement(rows[j], rows[i]))
		}
	}
	return l
}

// Holds reports whether a dependency holds in a table.
func Holds(n int, rows [][]int, d Dep) (bool, api.Errno) {
	if !valid(n, nil, d.From, d.To) || !validTable(n, rows) {
		return false, api.ErrArg
	}
	for _, equal := range agreements(rows) {
		if contains(equal, d.From) && !contains(equal, d.To) {
			return false, api.OK
		}
	}
	return true, api.OK
}

// Mine returns the least base of a table.
func Mine(n int, rows [][]int) ([]Dep, api.Errno) {
	if !valid(n, nil) || !validTable(n, rows) {
		return nil, api.ErrArg
	}
	l := agreements(rows)
	closure := func(set int) int {
		all := full(n)
		for _, equal := range l {
			if contains(equal, set) {
				all &= equal
			}
		}
		return all
	}
	return critical(n, closure), api.OK
}

// Armstrong returns a table in which just what follows holds.
func Armstrong(n int, l []Dep) ([][]int, api.Errno) {
	if !valid(n, l) {
		return nil, api.ErrArg
	}
	closure := closer(l)
	rows := [][]int{make([]int, n)}
	for set := range full(n) {
		if closure(set) == set {
			rows = append(rows, rowOutside(n, set, len(rows)))
		}
	}
	return rows, api.OK
}
