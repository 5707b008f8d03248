package plan

import (
	"strings"

	"cubeb/api"
)

const maxBytes = 2000

// Print returns an expression as a string.
func Print(e Expr) (string, api.Errno) {
	if !isWellFormed(e) {
		return "", api.ErrArg
	}
	var b strings.Builder
	printExpr(&b, e)
	return b.String(), api.OK
}

func printExpr(b *strings.Builder, e Expr) {
	if e.Op == opNames[opTable] {
		b.WriteString(e.Name)
		return
	}
	b.WriteString("(")
	printExpr(b, e.Kids[0])
	b.WriteString(" " + e.Op)
	if e.Op == opNames[opCount] {
		b.WriteString(" " + e.Name + " by")
	}
	for _, n := range e.Names {
		b.WriteString(" " + n)
	}
	if e.Test != nil {
		b.WriteString(" ")
		printTest(b, *e.Test)
	}
	for _, k := range e.Kids[1:] {
		b.WriteString(" ")
		printExpr(b, k)
	}
	b.WriteString(")")
}

func printTest(b *strings.Builder, t Test) {
	switch t.Op {
	case "not":
		b.WriteString("not ")
		printTest(b, t.Kids[0])
	case "and", "or":
		b.WriteString("(")
		printTest(b, t.Kids[0])
		b.WriteString(" " + t.Op + " ")
		printTest(b, t.Kids[1])
		b.WriteString(")")
	default:
		b.WriteString(t.Left + " " + t.Op + " " + t.Right)
	}
}

// Parse returns the expression of a string.
func Parse(s string) (Expr, api.Errno) {
	if len(s) > maxBytes {
		return Expr{}, api.ErrSize
	}
	e, ok := parse(s)
	if !ok {
		return Expr{}, api.ErrForm
	}
	return e, api.OK
}

// noExpression is the value of the panic of a parser.
type noExpression struct{}

// parse returns the expression of s, and false if there is none.
func parse(s string) (e Expr, ok bool) {
	defer func() {
		if recover() != nil {
			e, ok = Expr{}, false
		}
	}()
	p := &parser{rest: s}
	e = p.expr()
	// The parser is not strict: what it let pass is found when the expression is printed.
	if back, errno := Print(e); errno != api.OK || back != s {
		panic(noExpression{})
	}
	return e, true
}

type parser struct{ rest string }

// accepts takes s away if the rest begins with it, and reports whether it does.
func (p *parser) accepts(s string) bool {
	rest, ok := strings.CutPrefix(p.rest, s)
	p.rest = rest
	return ok
}

func (p *parser) expect(s string) {
	if !p.accepts(s) {
		panic(noExpression{})
	}
}

// word takes the letters away with which the rest begins.
func (p *parser) word() string {
	n := 0
	for n < len(p.rest) && p.rest[n] >= 'a' && p.rest[n] <= 'z' {
		n++
	}
	return p.take(n)
}

func (p *parser) take(n int) string {
	s := p.rest[:n]
	p.rest = p.rest[n:]
	return s
}

// names takes as many words away as there are, each with a blank before it.
func (p *parser) names() []string {
	var l []string
	for p.accepts(" ") {
		l = append(l, p.word())
	}
	return l
}

func (p *parser) expr() Expr {
	if !p.accepts("(") {
		return Expr{Op: opNames[opTable], Name: p.word()}
	}
	kid := p.expr()
	p.expect(" ")
	e := Expr{Op: p.word(), Kids: []Expr{kid}}
	switch opOf(e.Op) {
	case opWhere:
		p.expect(" ")
		t := p.test()
		e.Test = &t
	case opKeep, opName:
		e.Names = p.names()
	case opCount:
		p.expect(" ")
		e.Name = p.word()
		p.expect(" by")
		e.Names = p.names()
	default:
		p.expect(" ")
		second := p.expr()
		e.Kids = append(e.Kids, second)
	}
	p.expect(")")
	return e
}

func (p *parser) test() Test {
	if p.accepts("not ") {
		return Test{Op: "not", Kids: []Test{p.test()}}
	}
	if !p.accepts("(") {
		left := p.operand()
		p.expect(" ")
		op := p.take(min(1, len(p.rest)))
		p.expect(" ")
		return Test{Op: op, Left: left, Right: p.operand()}
	}
	first := p.test()
	p.expect(" ")
	op := p.word()
	p.expect(" ")
	second := p.test()
	p.expect(")")
	return Test{Op: op, Kids: []Test{first, second}}
}

// operand takes a column or a value away: a text ends with its second quote, all else before a blank or a bracket.
func (p *parser) operand() string {
	if strings.HasPrefix(p.rest, "'") {
		n := strings.IndexByte(p.rest[1:], '\'')
		return p.take(n + 2)
	}
	n := strings.IndexAny(p.rest, " )")
	if n < 0 {
		panic(noExpression{})
	}
	return p.take(n)
}
