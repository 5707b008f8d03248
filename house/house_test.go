package house

import (
	"math/rand"
	"slices"
	"strconv"
	"strings"
	"testing"

	"cubeb/api"
	"cubeb/chordal"
)

// path has the bays in a row.
var path = chordal.Graph{2, 5, 10, 20, 40, 80, 160, 64}

func open(t *testing.T) *House {
	t.Helper()
	h, e := Open(newDisk(t, 100000), path)
	if e != api.OK {
		t.Fatal(e)
	}
	return h
}

// step is a line with what Do, or Ask, replies.
type step struct {
	line, reply string
	e           api.Errno
}

func do(t *testing.T, h *House, steps ...step) {
	t.Helper()
	for _, x := range steps {
		before := h.State()
		s, e := h.Do(x.line)
		want(t, x.line, s, e, x.reply, x.e)
		if e != api.OK && h.State() != before {
			t.Error("an error changed the state", x.line)
		}
	}
}

func ask(t *testing.T, h *House, steps ...step) {
	t.Helper()
	before := h.State()
	for _, x := range steps {
		s, e := h.Ask(x.line)
		want(t, x.line, s, e, x.reply, x.e)
	}
	if h.State() != before {
		t.Error("Ask changed the state")
	}
}

func someLine(r *rand.Rand) string {
	n := func(k int) string { return " " + strconv.Itoa(r.Intn(k)) }
	spice := []string{"mace", "cubeb", "salt"}[r.Intn(3)]
	switch r.Intn(9) {
	case 0, 1, 2:
		return "take " + spice + n(500)
	case 3:
		return "blend" + n(6) + n(6) + n(200)
	case 4, 5:
		return "put" + n(6) + n(9)
	case 6:
		return "touch" + n(6) + n(6)
	case 7:
		return "test" + n(6) + []string{" good", " bad"}[r.Intn(2)]
	}
	return "close" + n(8)
}

func TestExample(t *testing.T) {
	h := open(t)
	do(t, h,
		step{"take mace 500", "take 1", api.OK}, step{"take cubeb 300", "take 2", api.OK}, step{"put 1 0", "put", api.OK}, step{"put 2 1", "", api.ErrState},
		step{"put 2 2", "put", api.OK}, step{"blend 1 2 100", "blend 3", api.OK}, step{"test 2 bad", "test", api.OK})
	ask(t, h,
		step{"traced", "traced 1 2 3", api.OK},
		step{"lots", "lots 1:mace:400:0:open 2:cubeb:200:2:open 3:blend:200:-:open", api.OK},
		step{"find e", "find 3 8 13", api.OK},
		step{"ask (lots where grams < 300)", "ask 2,cubeb,200 3,blend,200", api.OK},
		step{"sure", "sure", api.OK})
	do(t, h, step{"put 9 0", "", api.ErrNone}, step{"put 1", "", api.ErrForm}, step{"put 1 x", "", api.ErrForm}, step{"take 5 5", "", api.ErrForm})
	want(t, "State", h.State(), api.OK, "lots 1:mace:400:0:open 2:cubeb:200:2:open 3:blend:200:-:open\ntouch 3 1\ntouch 3 2\ntest 2 bad\n", api.OK)
	want(t, "Journal", h.Journal(), api.OK, []string{"take mace 500", "take cubeb 300", "put 1 0", "put 2 2", "blend 1 2 100", "test 2 bad"}, api.OK)
}

func TestForms(t *testing.T) {
	h := open(t)
	do(t, h, step{"take a 1", "take 1", api.OK}, step{"take abcdefgz 999999", "take 2", api.OK})
	for _, s := range []string{
		"", " ", "take", "take mace", "take mace 5 5", "take  mace 5", " take mace 5", "take mace 5 ", "take mace\t5", "take mace 5\n", "Take mace 5", "take Mace 5", "take abcdefghi 5", "take mac3 5",
		"take mace 05", "take mace 00", "take mace -5", "take mace +5", "take mace 1000000", "take mace 99999999999999999999", "take mace 5.0", "take mace x",
		"blend 1 2", "blend 1 2 3 4", "blend 1 x 3", "put 1", "put 1 2 3", "put x 1", "touch 1", "touch 1 2 3", "test 1", "test 1 Good", "test good 1", "test 1 good bad", "close", "close 1 2", "close x",
		"lots", "traced", "sure", "find a", "ask lots", "end", "open 1", "tak mace 5", "take m\xc3 5", "close 1 " + strings.Repeat("1", 200),
	} {
		got, e := h.Do(s)
		want(t, "Do "+s, got, e, "", api.ErrForm)
	}
	for _, s := range []string{
		"", " ", "lots ", " lots", "lots 1", "traced 1", "sure x", "find", "find ", "find  a", "find a  b", "find a ", "ask", "ask ", "ask  lots", "Lots", "take mace 5", "end", "find \n", "find \x7f", "ask " + strings.Repeat("a", 197), "find " + strings.Repeat("a", 196),
		"ask lots where", "ask (lots)", "ask (lots where id = 1))",
	} {
		got, e := h.Ask(s)
		want(t, "Ask "+s, got, e, "", api.ErrForm)
	}
	ask(t, h, step{"find " + strings.Repeat("a", 195), "find", api.OK}, step{"find ~", "find", api.OK})
	if len(h.Journal()) != 2 {
		t.Error("an error came into the journal")
	}
}

func TestChanges(t *testing.T) {
	h := open(t)
	do(t, h,
		step{"take mace 0", "", api.ErrArg}, step{"take mace 500", "take 1", api.OK}, step{"take mace 300", "take 2", api.OK}, step{"take cubeb 10", "take 3", api.OK},
		step{"blend 1 0 5", "", api.ErrNone}, step{"blend 9 1 5", "", api.ErrNone}, step{"blend 0 0 0", "", api.ErrNone}, step{"blend 1 1 5", "", api.ErrState}, step{"blend 1 2 0", "", api.ErrState}, step{"blend 1 2 301", "", api.ErrState}, step{"blend 2 1 301", "", api.ErrState},
		step{"blend 1 2 300", "blend 4", api.OK}, step{"blend 2 1 1", "", api.ErrState}, step{"blend 4 1 200", "blend 5", api.OK},
		step{"close 2", "close", api.OK}, step{"close 2", "", api.ErrState}, step{"close 0", "", api.ErrNone}, step{"close 6", "", api.ErrNone},
		step{"blend 2 3 1", "", api.ErrState}, step{"blend 3 2 1", "", api.ErrState},
		step{"touch 2 3", "touch", api.OK}, step{"touch 3 2", "touch", api.OK}, step{"touch 2 2", "", api.ErrState}, step{"touch 7 7", "", api.ErrNone}, step{"touch 1 6", "", api.ErrNone},
		step{"test 2 good", "test", api.OK}, step{"test 2 bad", "test", api.OK}, step{"test 2 good", "test", api.OK}, step{"test 6 good", "", api.ErrNone}, step{"test 0 bad", "", api.ErrNone})
	want(t, "State", h.State(), api.OK, "lots 1:mace:0:-:open 2:mace:0:-:closed 3:cubeb:10:-:open 4:blend:400:-:open 5:blend:400:-:open\n"+
		"touch 4 1\ntouch 4 2\ntouch 5 4\ntouch 5 1\ntouch 2 3\ntouch 3 2\ntest 2 good\ntest 2 bad\ntest 2 good\n", api.OK)
	for i := 6; i <= 20; i++ {
		do(t, h, step{"take salt 1", "take " + strconv.Itoa(i), api.OK})
	}
	do(t, h, step{"take salt 0", "", api.ErrFull}, step{"take salt 5", "", api.ErrFull}, step{"blend 99 1 0", "", api.ErrFull})
}

func TestPut(t *testing.T) {
	h := open(t)
	do(t, h,
		step{"take mace 5", "take 1", api.OK}, step{"take mace 5", "take 2", api.OK}, step{"take cubeb 5", "take 3", api.OK}, step{"take cubeb 5", "take 4", api.OK},
		step{"put 5 9", "", api.ErrNone}, step{"put 1 8", "", api.ErrArg}, step{"put 1 3", "put", api.OK}, step{"put 1 3", "put", api.OK},
		step{"put 2 3", "", api.ErrState}, step{"put 3 3", "", api.ErrState}, step{"put 2 4", "put", api.OK},
		step{"put 3 2", "", api.ErrState}, step{"put 3 5", "", api.ErrState}, step{"put 3 6", "put", api.OK}, step{"put 4 7", "put", api.OK},
		step{"put 2 5", "", api.ErrState}, step{"put 1 5", "", api.ErrState}, step{"close 3", "close", api.OK}, step{"put 3 0", "", api.ErrState}, step{"put 3 8", "", api.ErrArg},
		step{"put 2 6", "", api.ErrState}, step{"put 2 5", "put", api.OK}, step{"put 4 3", "", api.ErrState}, step{"close 1", "close", api.OK}, step{"put 4 3", "put", api.OK})
	ask(t, h, step{"lots", "lots 1:mace:5:-:closed 2:mace:5:5:open 3:cubeb:5:-:closed 4:cubeb:5:3:open", api.OK})
}

func TestAsk(t *testing.T) {
	h := open(t)
	ask(t, h,
		step{"lots", "lots", api.OK}, step{"traced", "traced", api.OK}, step{"sure", "sure", api.OK}, step{"find a", "find", api.OK}, step{"ask lots", "ask", api.OK}, step{"ask (tests count n by)", "ask 0", api.OK})
	do(t, h, step{"take mace 5", "take 1", api.OK}, step{"take mace 7", "take 2", api.OK}, step{"take salt 5", "take 3", api.OK}, step{"take salt 6", "take 4", api.OK})
	do(t, h, step{"test 1 good", "test", api.OK}, step{"test 1 good", "test", api.OK}, step{"test 2 good", "test", api.OK}, step{"test 2 bad", "test", api.OK}, step{"test 3 bad", "test", api.OK}, step{"touch 4 3", "touch", api.OK}, step{"close 4", "close", api.OK})
	ask(t, h,
		step{"sure", "sure 1", api.OK}, step{"traced", "traced 2 3 4", api.OK},
		step{"find a", "find 1 6 11 16", api.OK}, step{"find e m", "find 3", api.OK}, step{"find mace mace salt salt", "find 0", api.OK}, step{"find x", "find", api.OK},
		step{"ask tests", "ask 1,1 2,0 2,1 3,0", api.OK}, step{"ask (lots count n by spice)", "ask mace,2 salt,2", api.OK}, step{"ask ((lots join tests) keep grams ok)", "ask 5,0 5,1 7,0 7,1", api.OK},
		step{"ask (lots where spice = 'mace')", "ask 1,mace,5 2,mace,7", api.OK},
		step{"ask none", "", api.ErrType}, step{"ask (lots where bay = 1)", "", api.ErrType}, step{"ask (lots where spice = 5)", "", api.ErrType})
	cross := "((lots name id a) name grams b)"
	for range 4 {
		do(t, h, step{"take salt 1", "take " + strconv.Itoa(len(h.lots)+1), api.OK})
	}
	ask(t, h, step{"ask ((((lots keep id) name id a) join ((lots keep id) name id b)) join (((lots keep id) name id c) join ((lots keep id) name id d)))", "", api.ErrSize})
	ask(t, h, step{"ask (" + cross + " count n by)", "ask 8", api.OK})
}

func TestAskSizes(t *testing.T) {
	h := open(t)
	for i := range 6 {
		do(t, h, step{"take mace 5", "take " + strconv.Itoa(i+1), api.OK})
	}
	pairs := 0
	for i := range 6 {
		for j := range 6 {
			if i != j && pairs < 19 {
				line := "touch " + strconv.Itoa(i+1) + " " + strconv.Itoa(j+1)
				do(t, h, step{line, "touch", api.OK}, step{line, "touch", api.OK})
				pairs++
			}
		}
	}
	do(t, h, step{"test 6 bad", "test", api.OK}, step{"test 6 bad", "test", api.OK}, step{"test 5 good", "test", api.OK})
	ask(t, h, step{"traced", "traced 1 2 3 4 5 6", api.OK}, step{"sure", "sure 5", api.OK})
	do(t, h, step{"test 5 bad", "test", api.OK})
	ask(t, h, step{"traced", "", api.ErrSize}, step{"sure", "sure", api.OK})
	g := open(t)
	for i := range 7 {
		do(t, g, step{"take mace 5", "take " + strconv.Itoa(i+1), api.OK})
		if i < 6 {
			do(t, g, step{"test " + strconv.Itoa(i+1) + " good", "test", api.OK}, step{"test " + strconv.Itoa(i+1) + " bad", "test", api.OK}, step{"test " + strconv.Itoa(i+1) + " bad", "test", api.OK})
			ask(t, g, step{"sure", "sure", api.OK})
		}
	}
	ask(t, g, step{"traced", "", api.ErrSize})
	do(t, g, step{"test 7 good", "test", api.OK})
	ask(t, g, step{"sure", "", api.ErrSize})
	for i := range 13 {
		do(t, g, step{"take abcdefgh 5", "take " + strconv.Itoa(i+8), api.OK})
	}
	ask(t, g, step{"find h a", "find 42 51 60 69 78 87 96 105 114 123 132 141", api.OK})
}

// slowTraced follows contacts from the lots with bad tests; slowSure looks at the tests.
func slowTraced(h *House) string {
	traced := map[string]bool{}
	for range 30 {
		for _, s := range strings.Split(h.State(), "\n") {
			w := strings.Fields(s)
			if len(w) == 3 && w[2] == "bad" {
				traced[w[1]] = true
			}
			if len(w) == 3 && w[0] == "touch" && (traced[w[1]] || traced[w[2]]) {
				traced[w[1]], traced[w[2]] = true, true
			}
		}
	}
	reply := "traced"
	for i := range h.lots {
		if n := strconv.Itoa(i + 1); traced[n] {
			reply += " " + n
		}
	}
	return reply
}

func slowSure(h *House) string {
	reply := "sure"
	for i := range h.lots {
		n := strconv.Itoa(i + 1)
		if strings.Contains(h.State(), "test "+n+" good\n") && !strings.Contains(h.State(), "test "+n+" bad\n") {
			reply += " " + n
		}
	}
	return reply
}

func TestWork(t *testing.T) {
	r := rand.New(rand.NewSource(2))
	traced, sure := 0, 0
	for range 200 {
		h := open(t)
		grams := 0
		for range 25 {
			s := someLine(r)
			before, _ := h.Ask("traced")
			if reply, e := h.Do(s); e == api.OK && strings.HasPrefix(reply, "take ") {
				n, _ := strconv.Atoi(strings.Fields(s)[2])
				grams += n
			}
			sum := 0
			for i, l := range h.lots {
				sum += l.grams
				for j, m := range h.lots[:i] {
					if l.bay >= 0 && m.bay >= 0 && (l.closed || m.closed || l.bay == m.bay || l.spice != m.spice && path[l.bay]>>m.bay&1 == 1) {
						t.Error("bays", h.State(), i, j)
					}
				}
			}
			want(t, "grams", sum, api.OK, grams, api.OK)
			if got, e := h.Ask("traced"); e == api.OK {
				want(t, "traced", got, e, slowTraced(h), api.OK)
				traced += len(got)
				for _, n := range strings.Fields(before) {
					if strings.HasPrefix(s, "touch") && !slices.Contains(strings.Fields(got), n) {
						t.Error("a touch took a lot away", before, got)
					}
				}
			}
			if got, e := h.Ask("sure"); e == api.OK {
				want(t, "sure", got, e, slowSure(h), api.OK)
				sure += len(got)
			}
		}
		want(t, "State of the Journal", h.State(), api.OK, replayed(t, h.Journal()), api.OK)
	}
	if traced == 0 || sure == 0 {
		t.Error("nothing was traced or sure")
	}
}

func TestOpen(t *testing.T) {
	for _, bays := range []chordal.Graph{nil, path[:7], append(slices.Clone(path), 0), {1, 0, 0, 0, 0, 0, 0, 0}, {2, 0, 0, 0, 0, 0, 0, 0}} {
		d := newDisk(t, 10)
		d.Fuse(0)
		d.Sync()
		if h, e := Open(d, bays); h != nil || e != api.ErrArg {
			t.Error(bays, h, e)
		}
		_, e := Assign(bays, 3)
		want(t, "Assign", 0, e, 0, api.ErrArg)
	}
	d := newDisk(t, 10)
	d.Fuse(0)
	d.Sync()
	if h, e := Open(d, path); h != nil || e != api.ErrPower {
		t.Error(h, e)
	}
	for _, x := range []struct {
		bytes   string
		journal []string
	}{
		{"", nil}, {"take mace 5", nil}, {"take mace 5\n", []string{"take mace 5"}}, {"take mace 5\nput 1 0", []string{"take mace 5"}}, {"take mace 5\n\ntake mace 5\n", []string{"take mace 5"}},
		{"put 1 0\ntake mace 5\n", nil}, {"take mace 5\nput 1 8\nput 1 0\n", []string{"take mace 5"}}, {"take mace 5\nput 1 0\nlots\n", []string{"take mace 5", "put 1 0"}}, {"take mace 5\r\n", nil}, {"\x00\xff\n", nil}, {"end\n", nil},
	} {
		d := newDisk(t, 100)
		d.Append([]byte(x.bytes))
		h, e := Open(d, path)
		want(t, "Open", h.Journal(), e, x.journal, api.OK)
		lines := ""
		for _, s := range x.journal {
			lines += s + "\n"
		}
		d.Crash(0)
		wantBytes(t, d, lines)
		want(t, "State", h.State(), api.OK, replayed(t, x.journal), api.OK)
	}
}

func TestDoPower(t *testing.T) {
	d := newDisk(t, 24)
	h, _ := Open(d, path)
	do(t, h, step{"take mace 5", "take 1", api.OK}, step{"take mace 500", "", api.ErrFull}, step{"take mace 0", "", api.ErrArg}, step{"put 1 0", "put", api.OK}, step{"put 1 0", "", api.ErrFull})
	wantBytes(t, d, "take mace 5\nput 1 0\n")
	d.Fuse(0)
	do(t, h, step{"put 1 0", "", api.ErrFull}, step{"x", "", api.ErrForm})
	d = newDisk(t, 100)
	h, _ = Open(d, path)
	do(t, h, step{"take mace 5", "take 1", api.OK})
	d.Fuse(1)
	do(t, h, step{"take salt 5", "", api.ErrPower}, step{"x", "", api.ErrState})
	d.Crash(100)
	do(t, h, step{"take salt 5", "", api.ErrState})
	_, e := h.Day(make([]Call, 13))
	want(t, "Day", 0, e, 0, api.ErrState)
	ask(t, h, step{"lots", "lots 1:mace:5:-:open", api.OK})
	h, _ = Open(d, path)
	ask(t, h, step{"lots", "lots 1:mace:5:-:open 2:salt:5:-:open", api.OK})
}

func TestAssign(t *testing.T) {
	l, e := Assign(path, 2)
	want(t, "Assign", l, e, []int{0, 1, 0, 1, 0, 1, 0, 1}, api.OK)
	l, e = Assign(path, 1)
	want(t, "Assign", l, e, nil, api.ErrNone)
	l, e = Assign(make(chordal.Graph, 8), 1)
	want(t, "Assign", l, e, make([]int, 8), api.OK)
	for _, kinds := range []int{0, -1, 9, 1 << 62} {
		l, e := Assign(path, kinds)
		want(t, "Assign", l, e, nil, api.ErrArg)
	}
	ring := slices.Clone(path)
	ring[0] |= 128
	ring[7] |= 1
	l, e = Assign(ring, 8)
	want(t, "Assign", l, e, nil, api.ErrState)
	l, e = Assign(ring, 9)
	want(t, "Assign", l, e, nil, api.ErrArg)
	all := make(chordal.Graph, 8)
	for i := range all {
		all[i] = 255 &^ (1 << i)
	}
	l, e = Assign(all, 8)
	want(t, "Assign", l, e, []int{0, 1, 2, 3, 4, 5, 6, 7}, api.OK)
	l, e = Assign(all, 7)
	want(t, "Assign", l, e, nil, api.ErrNone)
}
