package plan

import (
	"math/rand"
	"reflect"
	"slices"
	"strconv"
	"strings"
	"testing"

	"cubeb/api"
	"cubeb/match"
)

// slowRow is a row as values by the names of the columns.
type slowRow map[string]string

// slowEval returns the rows of an expression from the words of the document, with repetitions.
func slowEval(d Data, e Expr) []slowRow {
	var kids [][]slowRow
	for _, k := range e.Kids {
		kids = append(kids, slowEval(d, k))
	}
	var l []slowRow
	switch e.Op {
	case "table":
		for _, r := range d[e.Name].Rows {
			row := slowRow{}
			for i, c := range d[e.Name].Columns {
				row[c.Name] = r[i]
			}
			l = append(l, row)
		}
	case "where":
		columns, _ := Type(d, e)
		for _, r := range kids[0] {
			if slowHolds(*e.Test, r, columns) {
				l = append(l, r)
			}
		}
	case "keep":
		for _, r := range kids[0] {
			row := slowRow{}
			for _, n := range e.Names {
				row[n] = r[n]
			}
			l = append(l, row)
		}
	case "name":
		for _, r := range kids[0] {
			row := slowRow{}
			for n, v := range r {
				row[n] = v
			}
			delete(row, e.Names[0])
			row[e.Names[1]] = r[e.Names[0]]
			l = append(l, row)
		}
	case "join":
		for _, a := range kids[0] {
			for _, b := range kids[1] {
				row := slowRow{}
				ok := true
				for n, v := range b {
					w, there := a[n]
					ok = ok && (!there || v == w)
					row[n] = v
				}
				for n, v := range a {
					row[n] = v
				}
				if ok {
					l = append(l, row)
				}
			}
		}
	case "plus":
		l = append(append(l, kids[0]...), kids[1]...)
	case "minus":
		for _, a := range kids[0] {
			if !slices.ContainsFunc(kids[1], func(b slowRow) bool { return reflect.DeepEqual(a, b) }) {
				l = append(l, a)
			}
		}
	case "count":
		var seen []slowRow
		rows := slowDistinct(kids[0])
		if len(e.Names) == 0 {
			seen = append(seen, slowRow{})
		}
		for _, r := range rows {
			row := slowRow{}
			for _, n := range e.Names {
				row[n] = r[n]
			}
			seen = append(seen, row)
		}
		for _, g := range slowDistinct(seen) {
			n := 0
			for _, r := range rows {
				same := true
				for _, name := range e.Names {
					same = same && r[name] == g[name]
				}
				if same {
					n++
				}
			}
			g[e.Name] = strconv.Itoa(n)
			l = append(l, g)
		}
	}
	return slowDistinct(l)
}

func slowDistinct(l []slowRow) []slowRow {
	var m []slowRow
	for _, r := range l {
		if !slices.ContainsFunc(m, func(s slowRow) bool { return reflect.DeepEqual(r, s) }) {
			m = append(m, r)
		}
	}
	return m
}

func slowHolds(t Test, r slowRow, columns []Column) bool {
	switch t.Op {
	case "and":
		return slowHolds(t.Kids[0], r, columns) && slowHolds(t.Kids[1], r, columns)
	case "or":
		return slowHolds(t.Kids[0], r, columns) || slowHolds(t.Kids[1], r, columns)
	case "not":
		return !slowHolds(t.Kids[0], r, columns)
	}
	text := strings.HasPrefix(t.Left, "'")
	value := func(s string) string {
		for _, c := range columns {
			if c.Name == s {
				text = text || c.Text
				return r[s]
			}
		}
		return strings.Trim(s, "'")
	}
	a, b := value(t.Left), value(t.Right)
	if t.Op == "=" {
		return a == b
	}
	if text {
		return a < b
	}
	x, _ := strconv.Atoi(a)
	y, _ := strconv.Atoi(b)
	return x < y
}

// slowTable writes rows as a table, sorted.
func slowTable(columns []Column, rows []slowRow) [][]string {
	var l [][]string
	for _, r := range rows {
		var row []string
		for _, c := range columns {
			row = append(row, r[c.Name])
		}
		l = append(l, row)
	}
	slices.SortFunc(l, func(a, b []string) int {
		for i, c := range columns {
			x, _ := strconv.Atoi(a[i])
			y, _ := strconv.Atoi(b[i])
			if c.Text && a[i] != b[i] {
				return strings.Compare(a[i], b[i])
			}
			if !c.Text && x != y {
				return x - y
			}
		}
		return 0
	})
	return l
}

func slowWork(d Data, e Expr) int {
	n := len(slowEval(d, e))
	for _, k := range e.Kids {
		n += slowWork(d, k)
	}
	return n
}

func TestEval(t *testing.T) {
	for s, rows := range map[string][][]string{
		"((lots join tests) where ok = 1)":                               {{"1", "mace", "1"}},
		"(lots count n by spice)":                                        {{"cubeb", "1"}, {"mace", "2"}},
		"(lots count n by)":                                              {{"3"}},
		"((lots where 1 = 2) count n by)":                                {{"0"}},
		"((lots where 1 = 2) count n by id)":                             nil,
		"(bays keep bay)":                                                {{"-1"}, {"9"}, {"10"}},
		"(bays keep spice)":                                              {{""}, {"b c"}, {"mace"}},
		"(lots keep spice)":                                              {{"cubeb"}, {"mace"}},
		"((lots keep id) minus (tests keep id))":                         {{"2"}},
		"((lots keep id) plus ((bays keep bay) name bay id))":            {{"-1"}, {"1"}, {"2"}, {"3"}, {"9"}, {"10"}},
		"((bays where bay < 10) keep bay)":                               {{"-1"}, {"9"}},
		"((bays where (spice < 'b' or spice = 'mace')) keep bay)":        {{"-1"}, {"10"}},
		"((bays where not ('b c' = spice and bay < id)) keep id)":        {{"-5"}, {"2"}, {"3"}},
		"((tests keep ok) join (tests keep id))":                         {{"0", "1"}, {"0", "3"}, {"1", "1"}, {"1", "3"}},
		"((bays name id lot) join ((lots name id lot) name spice what))": {{"-1", "", "3", "cubeb"}, {"10", "mace", "2", "mace"}},
	} {
		got, errno := Eval(houseData(), must(t, s))
		columns, _ := Type(houseData(), must(t, s))
		want(t, "Eval of "+s, got, errno, Table{columns, rows}, api.OK)
	}
	typed(t, func(r *rand.Rand, d Data, e Expr) {
		columns, _ := Type(d, e)
		got, errno := Eval(d, e)
		rows := slowEval(d, e)
		if len(got.Rows)+len(rows) > 0 || errno != api.OK {
			want(t, "Eval", got, errno, Table{columns, slowTable(columns, rows)}, api.OK)
		}
		n, errno := Work(d, e)
		want(t, "Work", n, errno, slowWork(d, e), api.OK)
		if !reflect.DeepEqual(d, houseData()) {
			t.Fatal("the Data have changed", e)
		}
		l, errno := Compile(d, e)
		if errno != api.OK {
			t.Error("Compile", e, errno)
		}
		ran, errno := Run(d, l)
		want(t, "Run", ran, errno, got, api.OK)
		for _, row := range got.Rows {
			row[0] = "changed"
		}
		if !reflect.DeepEqual(d, houseData()) {
			t.Fatal("the result shares memory with the Data", e)
		}
	})
}

func TestWork(t *testing.T) {
	n, errno := Work(houseData(), must(t, "((lots join tests) where ok = 1)"))
	want(t, "Work", n, errno, 8, api.OK)
	n, errno = Work(houseData(), must(t, "lots"))
	want(t, "Work", n, errno, 3, api.OK)
}

func TestSize(t *testing.T) {
	var many, some [][]string
	for i := range 100 {
		many = append(many, []string{strconv.Itoa(i)})
	}
	for i := range 21 {
		some = append(some, []string{strconv.Itoa(-i)})
	}
	d := Data{"a": {[]Column{{"x", false}}, many}, "b": {[]Column{{"y", false}}, some[:20]}, "c": {[]Column{{"y", false}}, some}}
	e := must(t, "(a join b)")
	got, errno := Eval(d, e)
	if len(got.Rows) != 2000 || errno != api.OK {
		t.Error(len(got.Rows), errno)
	}
	n, errno := Work(d, e)
	want(t, "Work", n, errno, 2120, api.OK)
	for _, s := range []string{"(a join c)", "(c join a)", "((a join c) where 1 = 2)", "((a join c) count n by)", "((a join b) plus ((a join c) where not y = 0))"} {
		e := must(t, s)
		got, errno := Eval(d, e)
		want(t, "Eval", got, errno, Table{}, api.ErrSize)
		n, errno := Work(d, e)
		want(t, "Work", n, errno, 0, api.ErrSize)
		l, errno := Compile(d, e)
		want(t, "Compile", len(l) > 0, errno, true, api.OK)
		got, errno = Run(d, l)
		want(t, "Run", got, errno, Table{}, api.ErrSize)
	}
	// Each part is not too large, but together they are.
	e = must(t, "(((a join b) plus ((a join c) where y < -15)) count n by)")
	_, errno = Eval(d, e)
	want(t, "a part that is too large", 0, errno, 0, api.ErrSize)
	e = must(t, "((a join b) plus (a join ((c where y < -15) where not 1 = 2)))")
	_, errno = Eval(d, e)
	want(t, "2100 rows of plus", 0, errno, 0, api.ErrSize)
	e = must(t, "((a join b) plus (a join (c where -20 < y)))")
	got, errno = Eval(d, e)
	want(t, "2000 rows of plus", len(got.Rows), errno, 2000, api.OK)
}

func TestCompile(t *testing.T) {
	l, errno := Compile(houseData(), must(t, "(((lots name id n) where n = 1) join (tests count m by ok))"))
	want(t, "Compile", l, errno, []Instr{
		{Op: 0, Name: "lots"}, {Op: 3, Names: []string{"id", "n"}, N: 1}, {Op: 1, Test: &Test{Op: "=", Left: "n", Right: "1"}, N: 1},
		{Op: 0, Name: "tests"}, {Op: 7, Name: "m", Names: []string{"ok"}, N: 1}, {Op: 4, N: 2},
	}, api.OK)
	l, errno = Compile(houseData(), must(t, "((lots plus lots) minus (lots keep id spice))"))
	want(t, "Compile", l, errno, []Instr{
		{Op: 0, Name: "lots"}, {Op: 0, Name: "lots"}, {Op: 5, N: 2}, {Op: 0, Name: "lots"}, {Op: 2, Names: []string{"id", "spice"}, N: 1}, {Op: 6, N: 2},
	}, api.OK)
	e := must(t, "((lots where id = 1) keep id)")
	l, _ = Compile(houseData(), e)
	l[1].Test.Left = "x"
	l[2].Names[0] = "x"
	if s, _ := Print(e); s != "((lots where id = 1) keep id)" {
		t.Error("the plan shares memory with the expression", s)
	}
}

func TestRunArguments(t *testing.T) {
	lots := Instr{Name: "lots"}
	test := &Test{Op: "=", Left: "id", Right: "1"}
	bad := &Test{Op: "=", Left: "id", Right: "'x'"}
	for i, l := range [][]Instr{
		nil, {lots, lots}, {{Op: 1, Test: test, N: 1}}, {lots, {Op: 1, Test: test}}, {lots, {Op: 1, Test: test, N: 2}}, {lots, {Op: 1, N: 1}}, {lots, {Op: 1, Test: bad, N: 1}},
		{{Name: "none"}}, {{}}, {{Op: -1, Name: "lots"}}, {lots, lots, {Op: -1, N: 2}}, {lots, lots, {Op: 8, N: 2}}, {{Op: 8, Name: "lots"}}, {{Op: 1 << 62, Name: "lots"}}, {{Name: "lots", N: 1}}, {{Name: "lots", N: -1}}, {{Name: "lots", N: -1 << 63}}, {{Name: "lots", Names: []string{"a"}}}, {{Name: "lots", Test: test}},
		{lots, {Op: 4, N: 2}}, {lots, lots, {Op: 4, N: 1}}, {lots, lots, lots, {Op: 4, N: 3}}, {lots, lots, {Op: 4, N: 2, Name: "a"}}, {lots, {Op: 2, N: 1}}, {lots, {Op: 2, N: 1, Names: []string{"ok"}}}, {lots, {Op: 2, N: 1, Names: []string{"id"}, Test: test}},
		{lots, {Name: "tests"}, {Op: 5, N: 2}}, slices.Concat(slices.Repeat([]Instr{lots}, 51), slices.Repeat([]Instr{{Op: 5, N: 2}}, 50)), slices.Repeat([]Instr{lots}, 101),
	} {
		got, errno := Run(houseData(), l)
		if errno != api.ErrArg || got.Columns != nil {
			t.Error(i, got, errno)
		}
	}
}

func TestRunLimit(t *testing.T) {
	l := slices.Concat(slices.Repeat([]Instr{{Name: "lots"}, {Name: "lots"}, {Op: 5, N: 2}}, 25), slices.Repeat([]Instr{{Op: 5, N: 2}}, 24), []Instr{{Op: 2, N: 1, Names: []string{"id"}}})
	got, errno := Run(houseData(), l)
	want(t, "100 instructions", got, errno, Table{[]Column{{"id", false}}, [][]string{{"1"}, {"2"}, {"3"}}}, api.OK)
}

func count(e Expr) int {
	n := 1
	for _, k := range e.Kids {
		n += count(k)
	}
	if e.Test != nil {
		n += countTest(*e.Test)
	}
	return n
}

func countTest(t Test) int {
	n := 1
	for _, k := range t.Kids {
		n += countTest(k)
	}
	return n
}

// slowPushed follows the definition.
func slowPushed(d Data, e Expr) bool {
	ok := true
	for _, k := range e.Kids {
		ok = ok && slowPushed(d, k)
	}
	if e.Op != "where" {
		return ok
	}
	b := e.Kids[0]
	for b.Op == "where" {
		b = b.Kids[0]
	}
	lacks := func(k Expr) bool {
		columns, _ := Type(d, k)
		for _, n := range []string{"id", "spice", "ok", "bay", "n", "by"} {
			text, _ := Print(Expr{Op: "where", Kids: []Expr{{Op: "table", Name: "x"}}, Test: e.Test})
			word := strings.FieldsFunc(strings.ReplaceAll(text[len("(x where"):], "'(x and y)'", ""), func(c rune) bool { return strings.ContainsRune(" ()", c) })
			if slices.Contains(word, n) && !slices.ContainsFunc(columns, func(c Column) bool { return c.Name == n }) {
				return true
			}
		}
		return false
	}
	switch b.Op {
	case "table", "keep", "count":
	case "join":
		ok = ok && lacks(b.Kids[0]) && lacks(b.Kids[1])
	default:
		return false
	}
	return ok && e.Test.Op != "and"
}

func TestPushed(t *testing.T) {
	for s, ok := range map[string]bool{
		"((lots join tests) where ok = 1)":                                                      false,
		"(lots join (tests where ok = 1))":                                                      true,
		"((lots join tests) where id = 1)":                                                      false,
		"((lots join tests) where (ok = 1 or spice = 'x'))":                                     true,
		"((lots join tests) where (ok = 1 and spice = 'x'))":                                    false,
		"((lots join tests) where 1 = 1)":                                                       false,
		"(((lots join tests) where (ok = 1 or spice = 'x')) where ok = 1)":                      false,
		"(((lots join tests) where ok = 1) where (ok = 1 or spice = 'x'))":                      false,
		"(((lots join tests) where not (ok = 1 and spice = 'x')) where (ok = 1 or '' = spice))": true,
		"(lots where (id = 1 and id = 2))":                                                      false,
		"(lots where not (id = 1 and id = 2))":                                                  true,
		"((lots keep id) where id = 1)":                                                         true,
		"((lots count n by) where n = 1)":                                                       true,
		"((lots name id n) where n = 1)":                                                        false,
		"((lots plus lots) where id = 1)":                                                       false,
		"((lots minus lots) where id = 1)":                                                      false,
		"(lots minus (lots where id = 1))":                                                      true,
		"lots":                                                                                  true,
	} {
		got, errno := Pushed(houseData(), must(t, s))
		want(t, "Pushed of "+s, got, errno, ok, api.OK)
	}
}

func TestPush(t *testing.T) {
	others := []Data{houseData(), houseData(), houseData()}
	others[1]["lots"] = Table{others[1]["lots"].Columns, [][]string{{"2", "x"}, {"-5", "b c"}, {"1", "mace"}, {"10", "mace"}, {"1", ""}}}
	others[1]["tests"] = Table{others[1]["tests"].Columns, [][]string{{"2", "1"}, {"2", "-5"}, {"1", "10"}, {"-5", "1"}}}
	others[2]["lots"] = Table{others[2]["lots"].Columns, nil}
	moved := 0
	typed(t, func(r *rand.Rand, d Data, e Expr) {
		before, _ := Print(e)
		ok, errno := Pushed(d, e)
		want(t, "Pushed of "+before, ok, errno, slowPushed(d, e), api.OK)
		p, errno := Push(d, e)
		if count(e) > 16 {
			want(t, "Push", p, errno, Expr{}, api.ErrSize)
			return
		}
		if !ok {
			moved++
		}
		after, f := Print(p)
		if ok, _ := Pushed(d, p); errno != api.OK || f != api.OK || !ok || !slowPushed(d, p) {
			t.Error("not pushed", before, after, errno, f)
		}
		c1, _ := Type(d, e)
		c2, _ := Type(d, p)
		if !slices.Equal(c1, c2) {
			t.Error("another type", before, after)
		}
		for _, o := range others {
			t1, e1 := Eval(o, e)
			t2, e2 := Eval(o, p)
			if e1 != api.OK || e2 != api.OK || !reflect.DeepEqual(t1, t2) {
				t.Error("other rows", before, after, t1, t2)
			}
		}
		for _, k := range p.Kids {
			if k.Test != nil {
				k.Test.Op = "x"
			}
		}
		if again, _ := Print(e); again != before {
			t.Error("the result shares memory with the argument", before)
		}
	})
	if moved < 200 {
		t.Error("little was moved", moved)
	}
	long := "(lots where ((((((id = 1 or id = 2) or id = 3) or id = 4) or id = 5) or id = 6) or id = 7))"
	_, errno := Push(houseData(), must(t, long))
	want(t, "15 nodes", 0, errno, 0, api.OK)
	_, errno = Push(houseData(), must(t, "("+long+" keep id)"))
	want(t, "16 nodes", 0, errno, 0, api.OK)
	_, errno = Push(houseData(), must(t, "(("+long+" keep id) name id n)"))
	want(t, "17 nodes", 0, errno, 0, api.ErrSize)
	_, errno = Push(houseData(), must(t, "(("+long+" keep id) keep n)"))
	want(t, "ErrType before ErrSize", 0, errno, 0, api.ErrType)
}

func TestLaws(t *testing.T) {
	rows := func(d Data, e Expr) ([][]string, bool) {
		x, errno := Eval(d, e)
		return x.Rows, errno == api.OK
	}
	pair := func(op string, a, b Expr) Expr { return Expr{Op: op, Kids: []Expr{a, b}} }
	var last Expr
	typed(t, func(r *rand.Rand, d Data, e Expr) {
		test := someTest(r, 1)
		yes := Expr{Op: "where", Test: &test, Kids: []Expr{e}}
		no := Expr{Op: "where", Test: &Test{Op: "not", Kids: []Test{test}}, Kids: []Expr{e}}
		f := last
		last = e
		all, _ := rows(d, e)
		for _, x := range [][2]Expr{
			{pair("plus", yes, no), e},
			{pair("plus", pair("minus", e, f), pair("minus", e, pair("minus", e, f))), e},
			{pair("plus", e, f), pair("plus", f, e)},
		} {
			a, ok := rows(d, x[0])
			b, also := rows(d, x[1])
			if ok && also && len(a)+len(b) > 0 && !reflect.DeepEqual(a, b) {
				t.Error(x, a, b, all)
			}
		}
		columns, errno := Type(d, pair("join", e, f))
		if errno != api.OK {
			return
		}
		var names []string
		for _, c := range columns {
			names = append(names, c.Name)
		}
		a, ok := rows(d, pair("join", e, f))
		b, also := rows(d, Expr{Op: "keep", Names: names, Kids: []Expr{pair("join", f, e)}})
		if ok && also && len(a)+len(b) > 0 && !reflect.DeepEqual(a, b) {
			t.Error("join exchanged", e, f)
		}
	})
}

func TestFromQuery(t *testing.T) {
	at := func(rel int, args ...int) match.Atom { return match.Atom{Rel: rel, Args: args} }
	for i, q := range []match.Query{
		{}, {Body: []match.Atom{at(0, 0)}}, {Head: []int{1}, Body: []match.Atom{at(0, 0)}}, {Head: []int{0, 0}, Body: []match.Atom{at(0, 0)}}, {Head: []int{0}, Body: []match.Atom{at(0, 0, 0)}},
		{Head: []int{0}, Body: []match.Atom{at(0, 0), at(1, -1)}}, {Head: []int{0}, Body: []match.Atom{at(0, 0), at(0, 0, 1)}},
	} {
		e, errno := FromQuery(q)
		if errno != api.ErrArg || e.Op != "" {
			t.Error(i, e, errno)
		}
	}
	r := rand.New(rand.NewSource(3))
	tried := 0
	for range 3000 {
		var q match.Query
		for range 1 + r.Intn(5) {
			a := at(r.Intn(6))
			vars := r.Perm(8)
			for j := range 1 + a.Rel%3 {
				x := vars[j]
				if r.Intn(5) == 0 {
					x = -1 - r.Intn(3)
				}
				a.Args = append(a.Args, x)
			}
			q.Body = append(q.Body, a)
			for _, x := range a.Args {
				if x >= 0 && !slices.Contains(q.Head, x) && len(q.Head) < 4 && r.Intn(3) == 0 {
					q.Head = append(q.Head, x)
				}
			}
		}
		e, errno := FromQuery(q)
		if errno != api.OK {
			continue
		}
		var facts []api.Fact
		d := Data{}
		for rel := range 6 {
			var table Table
			for i := range 1 + rel%3 {
				table.Columns = append(table.Columns, Column{"abc"[i : i+1], false})
			}
			for range r.Intn(5) {
				f := api.Fact{Rel: rel}
				var row []string
				for range 1 + rel%3 {
					x := 1 + r.Intn(3)
					f.Args = append(f.Args, x)
					row = append(row, strconv.Itoa(x))
				}
				if !slices.ContainsFunc(table.Rows, func(s []string) bool { return slices.Equal(s, row) }) {
					table.Rows = append(table.Rows, row)
					facts = append(facts, f)
				}
			}
			d["r"+"abcdef"[rel:rel+1]] = table
		}
		results, _ := match.Results(q, facts)
		var expect Table
		for _, v := range q.Head {
			expect.Columns = append(expect.Columns, Column{"v" + "abcdefgh"[v:v+1], false})
		}
		for _, x := range results {
			var row []string
			for _, y := range x {
				row = append(row, strconv.Itoa(y))
			}
			expect.Rows = append(expect.Rows, row)
		}
		got, errno := Eval(d, e)
		if len(got.Rows)+len(expect.Rows) > 0 || errno != api.OK {
			want(t, "Eval of FromQuery", got, errno, expect, api.OK)
		}
		tried++
	}
	if tried < 500 {
		t.Error("few queries have an expression", tried)
	}
}
