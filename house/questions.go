package house

import (
	"slices"
	"strconv"
	"strings"

	"cubeb/api"
	"cubeb/index"
	"cubeb/match"
	"cubeb/plan"
	"cubeb/repair"
	"cubeb/rules"
)

const (
	tracedLots  = 6
	tracedFacts = 20
	sureTests   = 12
)

// The numbers that stand for good and bad tests where only numbers from 1 on are allowed.
const (
	goodTest = 1
	badTest  = 2
)

// question is a question: its first word, whether something follows it, and what answers it.
type question struct {
	word   string
	rest   bool
	answer func(*state, string) (string, api.Errno)
}

func questions() []question {
	return []question{
		{"lots", false, (*state).answerLots},
		{"traced", false, (*state).answerTraced},
		{"sure", false, (*state).answerSure},
		{"find", true, (*state).answerFind},
		{"ask", true, (*state).answerAsk},
	}
}

// reply returns a word, and each element of l as a text with a blank before it.
func reply[T any](word string, l []T, text func(T) string) string {
	var b strings.Builder
	b.WriteString(word)
	for _, x := range l {
		b.WriteString(" " + text(x))
	}
	return b.String()
}

// distinct returns the elements of l for which a condition holds, each once.
func distinct[T comparable](l []T, condition func(T) bool) []T {
	var d []T
	for _, x := range l {
		if condition(x) && !slices.Contains(d, x) {
			d = append(d, x)
		}
	}
	return d
}

// numbers returns the numbers of all lots.
func (s *state) numbers() []int {
	l := make([]int, len(s.lots))
	for i := range l {
		l[i] = i + 1
	}
	return l
}

// tests returns the tests, each once.
func (s *state) tests() []event {
	return distinct(s.events, func(e event) bool { return e.isTest })
}

func (s *state) answerLots(string) (string, api.Errno) {
	return reply("lots", s.numbers(), func(i int) string {
		l := s.lotOf(i)
		bay, open := "-", "open"
		if l.bay != noBay {
			bay = strconv.Itoa(l.bay)
		}
		if l.closed {
			open = "closed"
		}
		return strings.Join([]string{strconv.Itoa(i), l.spice, strconv.Itoa(l.grams), bay, open}, ":")
	}), api.OK
}

// The Rels of the rules that trace.
const (
	badRel = iota
	tracedRel
	contactRel
)

// tracing returns the rules by which adulteration spreads over contacts, in both directions.
func tracing() []rules.Rule {
	atom := func(rel int, args ...int) match.Atom { return match.Atom{Rel: rel, Args: args} }
	lit := func(rel int, args ...int) rules.Lit { return rules.Lit{Atom: atom(rel, args...)} }
	return []rules.Rule{
		{Head: atom(tracedRel, 0), Body: []rules.Lit{lit(badRel, 0)}},
		{Head: atom(tracedRel, 1), Body: []rules.Lit{lit(tracedRel, 0), lit(contactRel, 0, 1)}},
		{Head: atom(tracedRel, 0), Body: []rules.Lit{lit(tracedRel, 1), lit(contactRel, 0, 1)}},
	}
}

func (s *state) answerTraced(string) (string, api.Errno) {
	causes := distinct(s.events, func(e event) bool { return !e.good })
	if len(s.lots) > tracedLots || len(causes) > tracedFacts {
		return "", api.ErrSize
	}
	var facts []api.Fact
	for _, e := range causes {
		f := api.Fact{Rel: contactRel, Args: []int{e.a, e.b}}
		if e.isTest {
			f = api.Fact{Rel: badRel, Args: []int{e.a}}
		}
		facts = append(facts, f)
	}
	model, e := rules.Model(tracing(), facts)
	if e != api.OK {
		return "", e
	}
	var traced []int
	for _, f := range model {
		if f.Rel == tracedRel {
			traced = append(traced, f.Args[0])
		}
	}
	return reply("traced", traced, strconv.Itoa), api.OK
}

func (s *state) answerSure(string) (string, api.Errno) {
	tests := s.tests()
	if len(tests) > sureTests {
		return "", api.ErrSize
	}
	var facts []api.Fact
	for _, e := range tests {
		f := api.Fact{Args: []int{e.a, badTest}}
		if e.good {
			f.Args[1] = goodTest
		}
		facts = append(facts, f)
	}
	// The lot is the key, so that each lot has one test in a repair.
	schema := []int{1, 1, 1, 1, 1, 1}
	isGood := match.Query{Head: []int{0}, Body: []match.Atom{{Rel: 0, Args: []int{0, -goodTest}}}}
	sure, e := repair.Sure(schema, facts, isGood)
	if e != api.OK {
		return "", e
	}
	return reply("sure", sure, func(result []int) string { return strconv.Itoa(result[0]) }), api.OK
}

func (s *state) answerFind(p string) (string, api.Errno) {
	var b strings.Builder
	for _, l := range s.lots {
		b.WriteString(l.spice + " ")
	}
	x, e := index.New(b.String())
	if e != api.OK {
		return "", api.ErrSize
	}
	places, e := x.Locate(p)
	if e != api.OK {
		return "", e
	}
	return reply("find", places, strconv.Itoa), api.OK
}

// data returns the lots and the tests as tables.
func (s *state) data() plan.Data {
	number := func(name string) plan.Column { return plan.Column{Name: name} }
	lots := plan.Table{Columns: []plan.Column{number("id"), {Name: "spice", Text: true}, number("grams")}}
	for _, i := range s.numbers() {
		l := s.lotOf(i)
		lots.Rows = append(lots.Rows, []string{strconv.Itoa(i), l.spice, strconv.Itoa(l.grams)})
	}
	tests := plan.Table{Columns: []plan.Column{number("id"), number("ok")}}
	for _, e := range s.tests() {
		ok := "0"
		if e.good {
			ok = "1"
		}
		tests.Rows = append(tests.Rows, []string{strconv.Itoa(e.a), ok})
	}
	return plan.Data{"lots": lots, "tests": tests}
}

func (s *state) answerAsk(text string) (string, api.Errno) {
	expr, e := plan.Parse(text)
	if e != api.OK {
		return "", e
	}
	t, e := plan.Eval(s.data(), expr)
	if e != api.OK {
		return "", e
	}
	return reply("ask", t.Rows, func(row []string) string { return strings.Join(row, ",") }), api.OK
}
