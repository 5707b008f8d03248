package plan

import (
	"math/rand"
	"reflect"
	"slices"
	"strconv"
	"strings"
	"testing"

	"cubeb/api"
)

func want[T any](t *testing.T, what string, got T, e api.Errno, expect T, err api.Errno) {
	t.Helper()
	if e != err || !reflect.DeepEqual(got, expect) {
		t.Errorf("%s: got %v, %d; want %v, %d", what, got, e, expect, err)
	}
}

// errOf returns the error of a call, and -1 if another result of a call with an error is not empty.
func errOf(results ...any) api.Errno {
	last := len(results) - 1
	e := results[last].(api.Errno)
	for _, x := range results[:last] {
		v := reflect.ValueOf(x)
		if e != api.OK && !v.IsZero() && (v.Kind() != reflect.Slice || v.Len() > 0) {
			return -1
		}
	}
	return e
}

// houseData is the Data of the document's examples, with a table more.
func houseData() Data {
	return Data{
		"lots":  {[]Column{{"id", false}, {"spice", true}}, [][]string{{"1", "mace"}, {"2", "mace"}, {"3", "cubeb"}}},
		"tests": {[]Column{{"id", false}, {"ok", false}}, [][]string{{"1", "1"}, {"3", "0"}}},
		"bays":  {[]Column{{"bay", false}, {"spice", true}, {"id", false}}, [][]string{{"10", "mace", "2"}, {"9", "b c", "-5"}, {"-1", "", "3"}}},
	}
}

func must(t *testing.T, s string) Expr {
	t.Helper()
	e, errno := Parse(s)
	if errno != api.OK {
		t.Fatal(s, errno)
	}
	return e
}

// someExpr returns an expression that has a type mostly.
func someExpr(r *rand.Rand, deep int) Expr {
	names := []string{"id", "spice", "ok", "bay", "id", "spice", "n", "by"}
	pick := func(least, most int) []string {
		var l []string
		for _, i := range r.Perm(5)[:least+r.Intn(most-least+1)] {
			l = append(l, names[i])
		}
		slices.Sort(l)
		return slices.Compact(l)
	}
	if deep == 0 || r.Intn(8) == 0 {
		return Expr{Op: "table", Name: []string{"lots", "tests", "bays"}[r.Intn(3)]}
	}
	kid := func() Expr { return someExpr(r, deep-1) }
	switch r.Intn(11) {
	case 0, 1, 2:
		x := someTest(r, 2)
		return Expr{Op: "where", Test: &x, Kids: []Expr{kid()}}
	case 3:
		return Expr{Op: "keep", Names: pick(1, 3), Kids: []Expr{kid()}}
	case 4:
		return Expr{Op: "name", Names: []string{names[r.Intn(6)], names[r.Intn(8)]}, Kids: []Expr{kid()}}
	case 5, 6:
		return Expr{Op: "join", Kids: []Expr{kid(), kid()}}
	case 7, 8:
		k := kid()
		l := k
		if r.Intn(4) == 0 {
			l = kid()
		}
		return Expr{Op: []string{"plus", "minus"}[r.Intn(2)], Kids: []Expr{sometimesWhere(r, l), sometimesWhere(r, k)}}
	}
	return Expr{Op: "count", Name: names[r.Intn(8)], Names: pick(0, 2), Kids: []Expr{kid()}}
}

func sometimesWhere(r *rand.Rand, e Expr) Expr {
	if r.Intn(3) == 0 {
		return e
	}
	x := someTest(r, 1)
	return Expr{Op: "where", Test: &x, Kids: []Expr{e}}
}

func someTest(r *rand.Rand, deep int) Test {
	if deep == 0 || r.Intn(3) == 0 {
		numbers := []string{"id", "id", "ok", "bay", "n", "1", "2", "-5", "10"}
		texts := []string{"spice", "spice", "'mace'", "''", "'b c'", "'(x and y)'"}
		l := numbers
		if r.Intn(3) == 0 {
			l = texts
		}
		return Test{Op: []string{"=", "<"}[r.Intn(2)], Left: l[r.Intn(len(l))], Right: l[r.Intn(len(l))]}
	}
	if r.Intn(3) == 0 {
		return Test{Op: "not", Kids: []Test{someTest(r, deep-1)}}
	}
	return Test{Op: []string{"and", "or"}[r.Intn(2)], Kids: []Test{someTest(r, deep-1), someTest(r, deep-1)}}
}

// typed calls f with many expressions that have a type.
func typed(t *testing.T, f func(r *rand.Rand, d Data, e Expr)) {
	r := rand.New(rand.NewSource(1))
	found := 0
	for range 20000 {
		d, e := houseData(), someExpr(r, 1+r.Intn(4))
		if _, errno := Type(d, e); errno == api.OK {
			found++
			f(r, d, e)
		}
	}
	if found < 1000 {
		t.Error("few expressions have a type", found)
	}
}

func TestParsePrint(t *testing.T) {
	for s, e := range map[string]Expr{
		"lots":                                {Op: "table", Name: "lots"},
		"(lots keep keep by)":                 {Op: "keep", Names: []string{"keep", "by"}, Kids: []Expr{{Op: "table", Name: "lots"}}},
		"(where where a = b)":                 {Op: "where", Test: &Test{Op: "=", Left: "a", Right: "b"}, Kids: []Expr{{Op: "table", Name: "where"}}},
		"(a where (not a < -5 or b = ') ('))": {},
		"(a count by by)":                     {Op: "count", Name: "by", Kids: []Expr{{Op: "table", Name: "a"}}},
		"(a count n by by n)":                 {Op: "count", Name: "n", Names: []string{"by", "n"}, Kids: []Expr{{Op: "table", Name: "a"}}},
		"(z name zz yz)":                      {Op: "name", Names: []string{"zz", "yz"}, Kids: []Expr{{Op: "table", Name: "z"}}},
		"(a name b b)":                        {Op: "name", Names: []string{"b", "b"}, Kids: []Expr{{Op: "table", Name: "a"}}},
		"((a join b) minus (c plus d))":       {},
		"(a where not not '' = 0)":            {},
		"(a where 99999999 < -99999999)":      {},
		"(a where ((a = b and 1 = 1) and not (a = b or c = 'abcdefghijklmnopqrst')))": {},
	} {
		got, errno := Parse(s)
		if errno != api.OK || e.Op != "" && !reflect.DeepEqual(got, e) {
			t.Error(s, got, errno)
		}
		back, errno := Print(got)
		want(t, "Print", back, errno, s, api.OK)
	}
	for _, s := range []string{
		"", " ", "lots ", " lots", "lots where id = 1", "(lots)", "((lots keep a))", "(lots keep)", "(lots keep )", "(lots keep a a)", "(lots keep a  b)", "(lots keep a b c d e f g h i)",
		"(a name b)", "(a name b c d)", "(a join)", "(a join b c)", "(a join b) ", "(a join b", "a)", "(a table b)", "(a foo b)", "(a  join b)", "( a join b)",
		"(a count n)", "(a count n by )", "(a count n b)", "(a count by)", "(a count n by a a)", "(a count n by a b c d e f g h)", "(a count 5 by)", "(a count n byx)",
		"(a where)", "(a where a)", "(a where a = )", "(a where = a)", "(a where a > b)", "(a where a == b)", "(a where a=b)", "(a where (a = b))", "(a where a = b and c = d)", "(a where (a = b xor c = d))",
		"(a where a = 05)", "(a where a = -0)", "(a where a = +5)", "(a where a = 100000000)", "(a where a = --5)", "(a where a = 'x)", "(a where a = x')", "(a where a = 'x'y')", "(a where a = 'abcdefghijklmnopqrstu')", "(a where a = '\n')", "(a where a = 'é')",
		"(a where not = b)", "(a where nota = b c)", "(a where and = b)", "and", "not", "or", "abcdefghi", "a1", "A", "(a where a = B)", "(", "((((", "(a where (((", "(a where not ", "(a where '", "\x00", "(a keep \xff)",
		strings.Repeat("(", 1999),
	} {
		e, errno := Parse(s)
		want(t, "Parse of "+s, e, errno, Expr{}, api.ErrForm)
	}
	e, errno := Parse(strings.Repeat("a", 2001))
	want(t, "2001 bytes", e, errno, Expr{}, api.ErrSize)
	e, errno = Parse(strings.Repeat("a", 2000))
	want(t, "2000 bytes", e, errno, Expr{}, api.ErrForm)
	r := rand.New(rand.NewSource(2))
	for range 3000 {
		e := someExpr(r, 1+r.Intn(4))
		s, errno := Print(e)
		if errno != api.OK {
			continue
		}
		got, errno := Parse(s)
		if again, _ := Print(got); errno != api.OK || again != s || !reflect.DeepEqual(normal(got), normal(e)) {
			t.Error(s, got, e, errno)
		}
		// A byte changed: what is an expression all the same is printed so.
		i := r.Intn(len(s))
		u := s[:i] + string("( )a'=<5 "[r.Intn(9)]) + s[i+r.Intn(2):]
		if got, errno := Parse(u); errno == api.OK {
			back, errno := Print(got)
			want(t, "Print", back, errno, u, api.OK)
		}
	}
}

// normal makes nil slices of empty ones.
func normal(e Expr) Expr { return copyExpr(e) }

func chain(tests int) Expr {
	e := Expr{Op: "table", Name: "lots"}
	for range tests {
		e = Expr{Op: "plus", Kids: []Expr{e, {Op: "table", Name: "lots"}}}
	}
	return e
}

func TestLimits(t *testing.T) {
	// 49 levels of Tests would be too deep, so a tree has the nodes.
	wide := func(n int) Test {
		var build func(n int) Test
		build = func(n int) Test {
			if n == 1 {
				return Test{Op: "=", Left: "1", Right: "1"}
			}
			if n%2 == 0 {
				return Test{Op: "not", Kids: []Test{build(n - 1)}}
			}
			half := (n - 1) / 2
			return Test{Op: "or", Kids: []Test{build(half), build(n - 1 - half)}}
		}
		return build(n)
	}
	for _, x := range []struct {
		nodes int
		e     api.Errno
	}{{100, api.OK}, {101, api.ErrArg}, {1000, api.ErrArg}} {
		test := wide(x.nodes - 2)
		e := Expr{Op: "where", Kids: []Expr{{Op: "table", Name: "lots"}}, Test: &test}
		s, errno := Print(e)
		want(t, "nodes", 0, errno, 0, x.e)
		if n, ok := nodesOf(e); x.e == api.OK && (n != x.nodes || !ok) {
			t.Error(n, x.nodes)
		}
		if x.e == api.OK {
			back, errno := Parse(s)
			want(t, "Parse", back, errno, e, api.OK)
			_, errno = Parse(strings.Replace(s, "1 = 1", "not 1 = 1", 1))
			want(t, "101 nodes", 0, errno, 0, api.ErrForm)
		}
		_, errno = Eval(houseData(), e)
		want(t, "Eval", 0, errno, 0, x.e)
	}
	for _, x := range []struct {
		depth int
		e     api.Errno
	}{{30, api.OK}, {31, api.ErrArg}, {5000, api.ErrArg}} {
		_, errno := Print(chain(x.depth - 1))
		want(t, "depth", 0, errno, 0, x.e)
		test := Test{Op: "=", Left: "1", Right: "1"}
		for range x.depth - 2 {
			test = Test{Op: "not", Kids: []Test{test}}
		}
		_, errno = Print(Expr{Op: "where", Kids: []Expr{chain(0)}, Test: &test})
		want(t, "depth with Tests", 0, errno, 0, x.e)
	}
	round := Expr{Op: "join", Kids: make([]Expr, 2)}
	round.Kids[0], round.Kids[1] = round, round
	test := Test{Op: "not", Kids: make([]Test, 1)}
	test.Kids[0] = test
	for _, e := range []Expr{round, {Op: "where", Test: &test, Kids: []Expr{chain(0)}}} {
		_, errno := Print(e)
		want(t, "without end", 0, errno, 0, api.ErrArg)
	}
	if _, errno := Run(houseData(), []Instr{{N: 0, Name: "lots"}, {Op: 1, N: 1, Test: &test}}); errno != api.ErrArg {
		t.Error("without end", errno)
	}
	// Print may be longer than Parse allows.
	long := Test{Op: "=", Left: "'aaaaaaaaaaaaaaaaaaaa'", Right: "'aaaaaaaaaaaaaaaaaaaa'"}
	for range 5 {
		long = Test{Op: "or", Kids: []Test{long, long}}
	}
	e := Expr{Op: "where", Test: &long, Kids: []Expr{chain(10)}}
	for range 10 {
		e = Expr{Op: "name", Names: []string{"aaaaaaaa", "bbbbbbbb"}, Kids: []Expr{e}}
	}
	if s, errno := Print(e); errno == api.OK && len(s) > 2000 {
		_, errno = Parse(s)
		want(t, "Parse of what is long", 0, errno, 0, api.ErrSize)
	} else {
		t.Error(len(s), errno)
	}
}

func TestWellFormed(t *testing.T) {
	lots := Expr{Op: "table", Name: "lots"}
	one := []Expr{lots}
	two := []Expr{lots, lots}
	good := &Test{Op: "=", Left: "a", Right: "1"}
	eight := []string{"a", "b", "c", "d", "e", "f", "g", "h"}
	for i, e := range []Expr{
		{}, {Op: "Table", Name: "lots"}, {Op: "table"}, {Op: "table", Name: "and"}, {Op: "table", Name: "lots", Names: []string{"a"}}, {Op: "table", Name: "lots", Kids: one}, {Op: "table", Name: "lots", Test: good},
		{Op: "where", Kids: one}, {Op: "where", Test: good}, {Op: "where", Test: good, Kids: two}, {Op: "where", Name: "a", Test: good, Kids: one}, {Op: "where", Names: []string{"a"}, Test: good, Kids: one},
		{Op: "keep", Kids: one}, {Op: "keep", Kids: one, Names: []string{"a", "a"}}, {Op: "keep", Kids: one, Names: append(eight, "i")}, {Op: "keep", Kids: one, Names: []string{""}}, {Op: "keep", Kids: one, Names: []string{"a"}, Test: good}, {Op: "keep", Kids: one, Name: "a", Names: []string{"a"}}, {Op: "keep", Names: []string{"a"}},
		{Op: "name", Kids: one, Names: []string{"a"}}, {Op: "name", Kids: one, Names: []string{"a", "b", "c"}}, {Op: "name", Kids: one, Names: []string{"a", "not"}},
		{Op: "join", Kids: one}, {Op: "plus", Kids: append(two, lots)}, {Op: "minus", Kids: two, Name: "a"}, {Op: "join", Kids: two, Test: good}, {Op: "join", Kids: []Expr{lots, {}}},
		{Op: "count", Kids: one}, {Op: "count", Kids: one, Name: "n", Names: eight}, {Op: "count", Kids: one, Name: "n", Names: []string{"a", "a"}}, {Op: "count", Kids: one, Name: "abcdefghi"}, {Op: "count", Kids: two, Name: "n"},
		{Op: "where", Kids: one, Test: &Test{}}, {Op: "where", Kids: one, Test: &Test{Op: "nor", Kids: []Test{*good}}}, {Op: "where", Kids: one, Test: &Test{Op: "nor", Kids: []Test{*good, *good}}}, {Op: "where", Kids: one, Test: &Test{Op: ">", Left: "a", Right: "b"}}, {Op: "where", Kids: one, Test: &Test{Op: "=", Left: "a"}}, {Op: "where", Kids: one, Test: &Test{Op: "=", Left: "a", Right: "'"}},
		{Op: "where", Kids: one, Test: &Test{Op: "=", Left: "a", Right: "b", Kids: []Test{*good}}}, {Op: "where", Kids: one, Test: &Test{Op: "not", Kids: []Test{*good, *good}}}, {Op: "where", Kids: one, Test: &Test{Op: "and", Kids: []Test{*good}}},
		{Op: "where", Kids: one, Test: &Test{Op: "or", Left: "a", Kids: []Test{*good, *good}}}, {Op: "where", Kids: one, Test: &Test{Op: "or", Kids: []Test{*good, {}}}}, {Op: "where", Kids: one, Test: &Test{Op: "not", Right: "a", Kids: []Test{*good}}},
	} {
		d := houseData()
		e1 := errOf(Print(e))
		e2 := errOf(Type(d, e))
		e3 := errOf(Eval(d, e))
		e4 := errOf(Work(d, e))
		e5 := errOf(Push(d, e))
		e6 := errOf(Pushed(d, e))
		e7 := errOf(Compile(d, e))
		for j, errno := range []api.Errno{e1, e2, e3, e4, e5, e6, e7} {
			if errno != api.ErrArg {
				t.Error(i, j, errno)
			}
		}
	}
	for _, e := range []Expr{{Op: "keep", Kids: one, Names: eight}, {Op: "count", Kids: one, Name: "n", Names: eight[:7]}, {Op: "name", Kids: one, Names: []string{"a", "a"}}} {
		if _, errno := Print(e); errno != api.OK {
			t.Error(e, errno)
		}
	}
}

func TestData(t *testing.T) {
	column := func(names ...string) []Column {
		var l []Column
		for _, n := range names {
			l = append(l, Column{n, false})
		}
		return l
	}
	var rows [][]string
	for i := range 101 {
		rows = append(rows, []string{strconv.Itoa(i)})
	}
	seven := Data{}
	for _, n := range []string{"a", "b", "c", "d", "e", "f", "g"} {
		seven[n] = Table{Columns: column("x")}
	}
	text := []Column{{"a", true}}
	lots := Expr{Op: "table", Name: "lots"}
	for i, d := range []Data{
		seven, {"and": {Columns: column("a")}}, {"": {Columns: column("a")}}, {"a": {}}, {"a": {Columns: column("a", "a")}}, {"a": {Columns: column("a", "not")}}, {"a": {Columns: column("a", "b", "c", "d", "e", "f", "g", "h", "i")}},
		{"a": {column("a"), rows}}, {"a": {column("a"), [][]string{{"1"}, {"1"}}}}, {"a": {column("a"), [][]string{{"1", "2"}}}}, {"a": {column("a"), [][]string{{}}}}, {"a": {column("a"), [][]string{{"01"}}}}, {"a": {column("a"), [][]string{{"-0"}}}}, {"a": {column("a"), [][]string{{"100000000"}}}}, {"a": {column("a"), [][]string{{""}}}}, {"a": {column("a"), [][]string{{"x"}}}},
		{"a": {text, [][]string{{"'"}}}}, {"a": {text, [][]string{{"\n"}}}}, {"a": {text, [][]string{{"abcdefghijklmnopqrstu"}}}}, {"a": {text, [][]string{{"\x7f"}}}},
	} {
		e1 := errOf(Type(d, lots))
		e2 := errOf(Eval(d, lots))
		e3 := errOf(Work(d, lots))
		e4 := errOf(Push(d, lots))
		e5 := errOf(Pushed(d, lots))
		e6 := errOf(Compile(d, lots))
		e7 := errOf(Run(d, nil))
		for j, errno := range []api.Errno{e1, e2, e3, e4, e5, e6, e7} {
			if errno != api.ErrArg {
				t.Error(i, j, errno)
			}
		}
	}
	delete(seven, "a")
	seven["b"] = Table{column("a", "b", "c", "d", "e", "f", "g", "h"), nil}
	seven["c"] = Table{column("a"), rows[:100]}
	seven["d"] = Table{text, [][]string{{""}, {" !~abcdefghijklmnopq"}}}
	seven["e"] = Table{column("a"), [][]string{{"-99999999"}, {"99999999"}, {"0"}}}
	if _, errno := Type(seven, Expr{Op: "table", Name: "b"}); errno != api.OK {
		t.Error(errno)
	}
	_, errno := Type(nil, lots)
	want(t, "no tables", 0, errno, 0, api.ErrType)
}

func TestType(t *testing.T) {
	id, spice, n := Column{"id", false}, Column{"spice", true}, Column{"n", false}
	for s, l := range map[string][]Column{
		"lots":                                  {id, spice},
		"(lots keep spice id)":                  {spice, id},
		"(lots name id n)":                      {n, spice},
		"(bays join tests)":                     {{"bay", false}, spice, id, {"ok", false}},
		"(lots count n by spice)":               {spice, n},
		"((lots keep spice) where spice = 'z')": {spice},
		"((((lots name id a) name spice b) join ((bays name bay c) name id d)) join ((tests name id z) join (lots keep id)))": {{"a", false}, {"b", true}, {"c", false}, spice, {"d", false}, {"z", false}, {"ok", false}, id},
		"(lots count id by)":                 {id},
		"(lots plus (lots minus lots))":      {id, spice},
		"((lots where 'a' < spice) keep id)": {id},
		"(lots where (1 = 2 or '' = 'x'))":   {id, spice},
	} {
		got, errno := Type(houseData(), must(t, s))
		want(t, "Type of "+s, got, errno, l, api.OK)
	}
	for _, s := range []string{
		"none", "(none keep a)", "(lots where id = spice)", "(lots where id = 'x')", "(lots where 5 < spice)", "(lots where 5 = 'x')", "(lots where n = 5)", "(lots where 5 = n)", "(lots where (id = 1 and not (spice = 1 or id = 1)))",
		"(lots keep n)", "(lots keep id n)", "(lots name n m)", "(lots name id spice)", "(lots name id id)", "(tests join ((lots keep spice) name spice ok))", "(((lots keep spice) name spice ok) join tests)", "((lots keep spice) where spice = 5)",
		"(lots plus tests)", "(lots minus (lots keep spice id))", "(lots plus (lots keep id))", "(lots count id by id)", "(lots count n by x)",
		"((((bays name id a) name spice b) name bay c) join ((((bays name id d) name spice e) name bay f) join (bays name bay g)))",
	} {
		e := must(t, s)
		d := houseData()
		e1 := errOf(Type(d, e))
		e2 := errOf(Eval(d, e))
		e3 := errOf(Work(d, e))
		e4 := errOf(Push(d, e))
		e5 := errOf(Pushed(d, e))
		e6 := errOf(Compile(d, e))
		for j, errno := range []api.Errno{e1, e2, e3, e4, e5, e6} {
			if errno != api.ErrType {
				t.Error(s, j, errno)
			}
		}
	}
}
