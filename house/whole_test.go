package house

import (
	"math/rand"
	"slices"
	"strconv"
	"testing"

	"cubeb/api"
	"cubeb/match"
	"cubeb/plan"
	"cubeb/repair"
	"cubeb/rules"
)

// TestOneMeaning asks queries as a match, as a rule, as an expression and as a compiled plan, and whether they are certain in books without contradictions.
func TestOneMeaning(t *testing.T) {
	r := rand.New(rand.NewSource(4))
	asked := 0
	for range 2000 {
		var q match.Query
		for range 1 + r.Intn(3) {
			a := match.Atom{Rel: r.Intn(3)}
			vars := r.Perm(4)
			for j := range 1 + a.Rel%2 {
				a.Args = append(a.Args, vars[j])
				if r.Intn(6) == 0 {
					a.Args[j] = -1 - r.Intn(3)
				}
			}
			q.Body = append(q.Body, a)
		}
		for _, v := range r.Perm(4)[:2] {
			if slices.ContainsFunc(q.Body, func(a match.Atom) bool { return slices.Contains(a.Args, v) }) {
				q.Head = append(q.Head, v)
			}
		}
		e, errno := plan.FromQuery(q)
		if errno != api.OK {
			continue
		}
		asked++
		facts, data := someBooks(r)
		results, _ := match.Results(q, facts)
		want(t, "rule", ruleResults(q, facts), api.OK, results, api.OK)
		table, errno := plan.Eval(data, e)
		want(t, "expression", numbersOf(table), errno, results, api.OK)
		pushed, errno := plan.Push(data, e)
		if errno == api.OK {
			table, errno = plan.Eval(data, pushed)
			want(t, "pushed", numbersOf(table), errno, results, api.OK)
		}
		compiled, _ := plan.Compile(data, e)
		table, errno = plan.Run(data, compiled)
		want(t, "plan", numbersOf(table), errno, results, api.OK)
		sure, errno := repair.Sure([]int{3, 3, 3, 3, 3, 3}, facts, q)
		if len(results) > 0 {
			want(t, "sure", sure, errno, results, api.OK)
		}
	}
	if asked < 300 {
		t.Error("few queries were asked", asked)
	}
}

// someBooks returns facts, each once, and the same as tables.
func someBooks(r *rand.Rand) ([]api.Fact, plan.Data) {
	var facts []api.Fact
	data := plan.Data{}
	for rel, name := range []string{"ra", "rb", "rc"} {
		table := plan.Table{Columns: []plan.Column{{Name: "a"}, {Name: "b"}}[:1+rel%2]}
		for range r.Intn(5) {
			f := api.Fact{Rel: rel}
			var row []string
			for range table.Columns {
				x := 1 + r.Intn(3)
				f.Args = append(f.Args, x)
				row = append(row, strconv.Itoa(x))
			}
			if !slices.ContainsFunc(table.Rows, func(s []string) bool { return slices.Equal(s, row) }) {
				table.Rows = append(table.Rows, row)
				facts = append(facts, f)
			}
		}
		data[name] = table
	}
	return facts, data
}

// ruleResults derives the results of a query by a rule.
func ruleResults(q match.Query, facts []api.Fact) [][]int {
	rule := rules.Rule{Head: match.Atom{Rel: 5, Args: q.Head}}
	for _, a := range q.Body {
		rule.Body = append(rule.Body, rules.Lit{Atom: a})
	}
	model, _ := rules.Model([]rules.Rule{rule}, facts)
	var l [][]int
	for _, f := range model {
		if f.Rel == 5 {
			l = append(l, f.Args)
		}
	}
	return l
}

func numbersOf(t plan.Table) [][]int {
	var l [][]int
	for _, row := range t.Rows {
		var numbers []int
		for _, s := range row {
			n, _ := strconv.Atoi(s)
			numbers = append(numbers, n)
		}
		l = append(l, numbers)
	}
	return l
}
