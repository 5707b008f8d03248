package house

import (
	"math/rand"
	"slices"
	"strings"
	"testing"

	"cubeb/api"
)

// calls reads lines that begin with the number of the clerk.
func calls(lines ...string) []Call {
	var l []Call
	for _, s := range lines {
		l = append(l, Call{int(s[0] - '0'), s[2:]})
	}
	return l
}

func TestDay(t *testing.T) {
	for _, x := range []struct {
		what           string
		day            []Call
		reply, journal []string
	}{
		{"nothing", nil, nil, nil},
		{"an end without lines", calls("0 end", "0 end"), nil, nil},
		{"lines without an end", calls("0 take mace 5", "1 take salt 5", "1 end", "1 take mace 5"), []string{"take 3"}, []string{"take salt 5"}},
		{"two transactions of a clerk", calls("0 touch 1 2", "0 end", "0 test 1 good", "0 test 2 bad", "0 end"), []string{"touch", "test", "test"}, []string{"touch 1 2", "test 1 good", "test 2 bad"}},
		{"the order of the commits", calls("0 test 1 good", "1 test 2 good", "1 end", "0 end"), []string{"test", "test"}, []string{"test 2 good", "test 1 good"}},
		{"one waits for the other", calls("0 test 1 good", "1 test 1 bad", "1 end", "0 touch 1 2", "0 end"), []string{"test", "touch", "test"}, []string{"test 1 good", "touch 1 2", "test 1 bad"}},
		{"lots 1 and 5 are one item", calls("0 test 1 good", "1 test 5 good", "1 end", "0 end"), []string{"test", "!"}, []string{"test 1 good"}},
		{"lots 1 and 6 are two items", calls("0 test 1 good", "1 test 6 good", "1 end", "0 end"), []string{"!", "test"}, []string{"test 1 good"}},
		{"take has all lots", calls("0 take mace 5", "1 take salt 5", "1 end", "0 end"), []string{"take 3", "take 4"}, []string{"take mace 5", "take salt 5"}},
		{"blend has all lots", calls("0 blend 1 2 5", "1 take salt 5", "1 end", "0 end"), []string{"blend 3", "take 4"}, []string{"blend 1 2 5", "take salt 5"}},
		{"blend has its lots", calls("0 test 2 bad", "1 blend 1 2 5", "1 end", "0 end"), []string{"test", "blend 3"}, []string{"test 2 bad", "blend 1 2 5"}},
		{"put has all bays", calls("0 put 1 0", "1 put 2 5", "1 end", "0 end"), []string{"put", "put"}, []string{"put 1 0", "put 2 5"}},
		{"put has its lot", calls("0 close 1", "1 put 1 5", "1 end", "0 end"), []string{"close", "!"}, []string{"close 1"}},
		{"put has not all lots", calls("0 take mace 5", "1 put 1 5", "1 end", "0 end"), []string{"put", "take 3"}, []string{"put 1 5", "take mace 5"}},
		{"the grams are no lot", calls("0 blend 1 2 3", "1 test 3 good", "1 end", "0 end"), []string{"!", "blend 3"}, []string{"blend 1 2 3"}},
		{"the bay is no lot", calls("0 put 1 2", "1 test 2 good", "1 end", "0 end"), []string{"test", "put"}, []string{"test 2 good", "put 1 2"}},
		{"no lot is all bays", calls("0 put 1 0", "1 test 4 good", "1 end", "2 touch 2 3", "2 end", "0 end"), []string{"!", "!", "put"}, []string{"put 1 0"}},
		{"no lot is all lots", calls("0 take mace 5", "1 touch 4 3", "1 end", "2 touch 1 2", "2 end", "0 end"), []string{"!", "touch", "take 3"}, []string{"touch 1 2", "take mace 5"}},
		// Transaction 3 reads what transaction 2 reads, so that neither can write: the one that begins to wait last aborts.
		{"reads come before writes", calls("0 test 2 good", "1 touch 1 2", "2 test 1 good", "0 end", "1 end", "2 end"), []string{"test", "test"}, []string{"test 2 good", "test 1 good"}},
		{"a cycle aborts the second one", calls("0 test 1 good", "1 test 2 good", "0 test 2 bad", "1 test 1 bad", "0 end", "1 end"), []string{"test", "test"}, []string{"test 1 good", "test 2 bad"}},
		{"a line that is passed over", calls("0 take mace 0", "0 put 9 1", "0 put 1 9", "0 close 1", "0 close 1", "0 touch 1 1", "0 end"), []string{"!", "!", "!", "close", "!", "!"}, []string{"close 1"}},
		{"the commit of what waits comes late", calls("0 test 1 good", "1 test 1 bad", "2 test 2 good", "1 end", "2 end", "0 end"), []string{"test", "test", "test"}, []string{"test 2 good", "test 1 good", "test 1 bad"}},
	} {
		h := open(t)
		do(t, h, step{"take mace 50", "take 1", api.OK}, step{"take mace 50", "take 2", api.OK})
		got, e := h.Day(x.day)
		want(t, x.what, got, e, x.reply, api.OK)
		want(t, x.what, h.Journal()[2:], e, append([]string{}, x.journal...), api.OK)
		want(t, x.what, h.State(), e, replayed(t, h.Journal()), api.OK)
	}
}

func TestDayArguments(t *testing.T) {
	h := open(t)
	do(t, h, step{"take mace 50", "take 1", api.OK}, step{"take mace 50", "take 2", api.OK})
	var blends, touches []string
	for range 6 {
		blends = append(blends, "0 blend 1 2 1")
		touches = append(touches, "1 touch 1 2")
	}
	before := h.State()
	for i, l := range [][]Call{
		{{-1, "take mace 5"}}, {{4, "take mace 5"}}, {{1 << 62, "end"}}, {{0, ""}}, {{0, "lots"}}, {{0, "End"}}, {{0, "end "}}, {{0, "take mace"}}, {{0, "take mace 5\n"}}, {{0, "take mace 5"}, {0, "end"}, {1, "x"}},
		slices.Repeat([]Call{{0, "end"}}, 13),
		calls(append(slices.Repeat([]string{"0 close 1"}, 7), "0 end")...),
		calls(append(slices.Concat(blends, touches[:4]), "0 end", "1 end")...),
	} {
		got, e := h.Day(l)
		want(t, "Day "+string(rune('a'+i)), got, e, nil, api.ErrArg)
	}
	if h.State() != before {
		t.Error("an error changed the state")
	}
	got, e := h.Day(slices.Repeat([]Call{{0, "end"}}, 12))
	want(t, "12 calls", got, e, nil, api.OK)
	// Two Ops for each blend's item, and a commit: 6 * 6 + 1 = 37; a touch has one item less.
	got, e = h.Day(calls(append(slices.Clone(blends), "0 end", "1 test 1 bad", "1 end")...))
	want(t, "40 operations", len(got), e, 7, api.OK)
	got, e = h.Day(calls(append(slices.Clone(blends), "0 end", "1 touch 1 2", "1 end")...))
	want(t, "42 operations", got, e, nil, api.ErrArg)
	got, e = h.Day(calls("0 close 1", "0 end", "1 close 1", "1 end", "0 close 2", "0 end", "0 close 3", "0 end", "0 close 4", "0 end", "0 close 5", "0 end"))
	want(t, "six transactions", len(got), e, 6, api.OK)
}

func TestDayPower(t *testing.T) {
	d := newDisk(t, 28)
	h, _ := Open(d, path)
	got, e := h.Day(calls("0 take mace 5", "0 take mace 0", "0 take salt 555555", "0 end"))
	want(t, "Day", got, e, nil, api.ErrFull)
	want(t, "what was done stays", h.Journal(), api.OK, []string{"take mace 5"}, api.OK)
	do(t, h, step{"put 1 0", "put", api.OK})
	d.Fuse(1)
	got, e = h.Day(calls("0 close 1", "0 end"))
	want(t, "Day", got, e, nil, api.ErrPower)
	got, e = h.Day(nil)
	want(t, "Day", got, e, nil, api.ErrState)
	do(t, h, step{"close 1", "", api.ErrState})
	d.Crash(0)
	h, _ = Open(d, path)
	want(t, "Journal", h.Journal(), api.OK, []string{"take mace 5", "put 1 0"}, api.OK)
	// 20 lots are an error of the change.
	h = open(t)
	for range 19 {
		h.Do("take mace 5")
	}
	got, e = h.Day(calls("0 take mace 5", "0 take mace 5", "0 blend 1 2 1", "0 end"))
	want(t, "Day", got, e, []string{"take 20", "!", "!"}, api.OK)
}

// TestDaySerial looks for a serial order of the transactions that does what Day did.
func TestDaySerial(t *testing.T) {
	r := rand.New(rand.NewSource(3))
	several := 0
	for range 500 {
		var day []Call
		for range 12 {
			c := Call{r.Intn(3), someLine(r)}
			if r.Intn(3) == 0 {
				c.Line = "end"
			}
			day = append(day, c)
		}
		h := open(t)
		for range 4 {
			h.Do("take mace 50")
		}
		begin := len(h.Journal())
		got, e := h.Day(day)
		if e == api.ErrArg {
			continue
		}
		txns := map[string]bool{}
		for clerk := range 3 {
			var lines []string
			for _, c := range day {
				if c.Clerk == clerk && c.Line != "end" {
					lines = append(lines, c.Line)
				} else if c.Clerk == clerk && len(lines) > 0 {
					txns[strings.Join(lines, "\n")] = true
					lines = nil
				}
			}
		}
		if len(txns) > 2 {
			several++
		}
		if !isSerial(t, h, begin, txns, nil, got) {
			t.Error("no serial order", day, got, h.Journal()[begin:])
		}
	}
	if several < 50 {
		t.Error("few days have several transactions", several)
	}
}

// isSerial tries all orders of all choices of transactions.
func isSerial(t *testing.T, h *House, begin int, txns map[string]bool, order, got []string) bool {
	g := open(t)
	for _, s := range h.Journal()[:begin] {
		g.Do(s)
	}
	var replies []string
	for _, txn := range order {
		for _, s := range strings.Split(txn, "\n") {
			reply, e := g.Do(s)
			if e != api.OK {
				reply = "!"
			}
			replies = append(replies, reply)
		}
	}
	if g.State() == h.State() && slices.Equal(replies, got) {
		return true
	}
	for txn := range txns {
		if !slices.Contains(order, txn) && len(replies) < len(got) && isSerial(t, h, begin, txns, append(slices.Clone(order), txn), got) {
			return true
		}
	}
	return false
}
