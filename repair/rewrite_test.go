package repair

import (
	"math/rand"
	"slices"
	"testing"

	"cubeb/api"
	"cubeb/match"
)

// slowClosure closes a set of variables under the dependencies of all atoms but one.
func slowClosure(schema []int, q match.Query, vars map[int]bool, but int) map[int]bool {
	closed := map[int]bool{}
	for v := range vars {
		closed[v] = true
	}
	for range 10 {
		for i, a := range q.Body {
			all := i != but
			for _, x := range a.Args[:schema[a.Rel]] {
				all = all && (x < 0 || closed[x])
			}
			for _, x := range a.Args {
				if all && x >= 0 {
					closed[x] = true
				}
			}
		}
	}
	return closed
}

func keyOf(schema []int, a match.Atom) map[int]bool {
	vars := map[int]bool{}
	for _, x := range a.Args[:schema[a.Rel]] {
		if x >= 0 {
			vars[x] = true
		}
	}
	return vars
}

func slowAttacks(schema []int, q match.Query) [][3]int {
	var l [][3]int
	for i, a := range q.Body {
		plus := slowClosure(schema, q, keyOf(schema, a), i)
		var walk func(at int, seen []int) []int
		walk = func(at int, seen []int) []int {
			seen = append(seen, at)
			for j, b := range q.Body {
				linked := slices.ContainsFunc(b.Args, func(x int) bool {
					return x >= 0 && !plus[x] && slices.Contains(q.Body[at].Args, x)
				})
				if linked && !slices.Contains(seen, j) {
					seen = walk(j, seen)
				}
			}
			return seen
		}
		reached := walk(i, nil)
		all := slowClosure(schema, q, keyOf(schema, a), -1)
		for j, b := range q.Body {
			if j == i || !slices.Contains(reached, j) {
				continue
			}
			strong := 0
			for v := range keyOf(schema, b) {
				if !all[v] {
					strong = 1
				}
			}
			l = append(l, [3]int{i, j, strong})
		}
	}
	return l
}

func fits(schema []int, q match.Query) bool {
	return !slices.ContainsFunc(q.Body, func(a match.Atom) bool { return len(a.Args) < schema[a.Rel] })
}

func TestAttacks(t *testing.T) {
	l, e := Attacks(ones, query(nil, at(0, 0, 1), at(1, 1, 2)))
	want(t, "Attacks", l, e, [][3]int{{0, 1, 0}}, api.OK)
	l, e = Attacks(ones, query([]int{0}, at(0, 0, 1), at(1, 1, 0)))
	want(t, "Attacks both ways", l, e, [][3]int{{0, 1, 0}, {1, 0, 0}}, api.OK)
	l, e = Attacks(ones, query(nil, at(0, 0, 2), at(1, 1, 2)))
	want(t, "strong", l, e, [][3]int{{0, 1, 1}, {1, 0, 1}}, api.OK)
	l, e = Attacks(ones, query(nil, at(0, 0, 1), at(0, 1, 2)))
	want(t, "not plain", l, e, nil, api.ErrState)
	l, e = Attacks([]int{3, 1, 1, 1, 1, 1}, query(nil, at(0, 0, 1), at(0, 1, 2)))
	want(t, "ErrArg first", l, e, nil, api.ErrArg)
	l, e = Attacks(ones, query(nil, at(0, 0, 1), at(1, 2, 3)))
	want(t, "nothing in common", l, e, nil, api.OK)
	// The variable 1 leads from the atom 0 to 1, the variable 2 on to the atom 2.
	l, e = Attacks(ones, query(nil, at(0, 0, 1), at(1, 1, 2), at(2, 2)))
	want(t, "over another atom", l, e, [][3]int{{0, 1, 0}, {0, 2, 0}, {1, 2, 0}}, api.OK)
	sample(func(r *rand.Rand, schema []int, facts []api.Fact, q match.Query) {
		l, e := Attacks(schema, q)
		if !fits(schema, q) {
			want(t, "Attacks", l, e, nil, api.ErrArg)
			return
		}
		want(t, "Attacks", l, e, slowAttacks(schema, q), api.OK)
		attacks := func(f, g int) bool {
			return slices.ContainsFunc(l, func(x [3]int) bool { return x[0] == f && x[1] == g })
		}
		for _, x := range l {
			for _, y := range l {
				if x[1] == y[0] && x[0] != y[1] && !attacks(x[0], y[1]) && !attacks(x[1], x[0]) {
					t.Error("neither attacks", schema, q, x, y)
				}
			}
		}
	})
}

func TestRewrite(t *testing.T) {
	ok, e := Rewrite(ones, books0, query(nil, at(0, 0, -3)))
	want(t, "Rewrite", ok, e, true, api.OK)
	ok, e = Rewrite(ones, books0, query(nil, at(0, -1, -3)))
	want(t, "Rewrite", ok, e, false, api.OK)
	ok, e = Rewrite(ones, nil, query(nil, at(0, 0, 1), at(1, 1, 0)))
	want(t, "both attack", ok, e, false, api.ErrState)
	ok, e = Rewrite(ones, nil, query(nil, at(0, 0), at(0, 1)))
	want(t, "not plain", ok, e, false, api.ErrState)
	ok, e = Rewrite([]int{3, 1, 1, 1, 1, 1}, nil, query(nil, at(0, 0), at(0, 1)))
	want(t, "too few Args", ok, e, false, api.ErrArg)
	// The numbers are beyond the constants, and the second atom is needed for each fact of the block.
	facts := []api.Fact{fa(0, 1, 98), fa(0, 1, 99), fa(1, 98, 7), fa(1, 99, 7)}
	ok, e = Rewrite(ones, facts, query(nil, at(0, 0, 1), at(1, 1, -7)))
	want(t, "for each fact of the block", ok, e, true, api.OK)
	ok, e = Rewrite(ones, facts[:3], query(nil, at(0, 0, 1), at(1, 1, -7)))
	want(t, "not for each fact", ok, e, false, api.OK)
	ok, e = Rewrite(ones, facts, query(nil, at(0, 0, 0)))
	want(t, "equal variables", ok, e, false, api.OK)
	ok, e = Rewrite(ones, facts, query(nil, at(0, 0, 1, 2)))
	want(t, "another number of Args", ok, e, false, api.OK)
	ok, e = Rewrite([]int{0, 0, 0, 0, 0, 0}, nil, query(nil, at(0, 0)))
	want(t, "no block", ok, e, false, api.OK)
	seen := [2]int{}
	sample(func(r *rand.Rand, schema []int, facts []api.Fact, q match.Query) {
		ok, e := Rewrite(schema, facts, q)
		if !fits(schema, q) {
			want(t, "Rewrite", ok, e, false, api.ErrArg)
			return
		}
		if loops(slowAttacks(schema, q)) {
			want(t, "Rewrite", ok, e, false, api.ErrState)
			return
		}
		certain, _ := Certain(schema, facts, q)
		want(t, "Rewrite", ok, e, certain, api.OK)
		if ok {
			seen[1]++
		} else {
			seen[0]++
		}
	})
	if slices.Min(seen[:]) < 50 {
		t.Error("the samples are too much alike", seen)
	}
}

// loops reports whether attacks have a cycle, by ways of four attacks that come back.
func loops(l [][3]int) bool {
	var reach [4][4]bool
	for _, x := range l {
		reach[x[0]][x[1]] = true
	}
	for k := range reach {
		for i := range reach {
			for j := range reach {
				reach[i][j] = reach[i][j] || reach[i][k] && reach[k][j]
			}
		}
	}
	return reach[0][0] || reach[1][1] || reach[2][2] || reach[3][3]
}
