package house

import (
	"slices"
	"strconv"
	"strings"

	"cubeb/api"
)

const (
	maxLine   = 200
	maxDigits = 6
	maxSpice  = 8
)

// The items of the histories of clerks: those of lots come from firstLot on.
const (
	noItem   = -1
	allLots  = 0
	allBays  = 1
	firstLot = 2
	lotItems = 4
)

// command is a change: its first word, what the other words are (s a spice, n a number, g good or bad), what it does, and which items it has.
type command struct {
	word, form string
	item       int // of all lots or all bays
	lots       int // how many of the numbers, from the first one on, are lots
	check      func(*state, order) api.Errno
	do         func(*state, order) string
}

func commands() []command {
	return []command{
		{"take", "sn", allLots, 0, (*state).checkTake, (*state).take},
		{"blend", "nnn", allLots, 2, (*state).checkBlend, (*state).blend},
		{"put", "nn", allBays, 1, (*state).checkPut, (*state).put},
		{"touch", "nn", noItem, 2, (*state).checkTouch, (*state).touch},
		{"test", "ng", noItem, 1, (*state).checkTest, (*state).test},
		{"close", "n", noItem, 1, (*state).checkClose, (*state).close},
	}
}

// order is a change with its words.
type order struct {
	command
	spice string
	n     []int
	good  bool
}

// isLine reports whether s is a line.
func isLine(s string) bool {
	if len(s) > maxLine {
		return false
	}
	for i := range len(s) {
		if s[i] < 32 || s[i] > 126 {
			return false
		}
	}
	return !slices.Contains(strings.Split(s, " "), "")
}

// parse returns the change that a string is in its form, and false if it is none.
func parse(s string) (order, bool) {
	if !isLine(s) {
		return order{}, false
	}
	words := strings.Split(s, " ")
	for _, c := range commands() {
		if c.word != words[0] || len(c.form) != len(words)-1 {
			continue
		}
		o := order{command: c}
		for i, w := range words[1:] {
			if !o.read(c.form[i], w) {
				return order{}, false
			}
		}
		return o, true
	}
	return order{}, false
}

// read takes a word of a kind into the order, and reports whether it is one.
func (o *order) read(kind byte, w string) bool {
	switch kind {
	case 's':
		o.spice = w
		return isSpice(w)
	case 'g':
		o.good = w == "good"
		return o.good || w == "bad"
	}
	n, err := strconv.Atoi(w)
	o.n = append(o.n, n)
	return err == nil && n >= 0 && len(w) <= maxDigits && strconv.Itoa(n) == w
}

func isSpice(w string) bool {
	for i := range len(w) {
		if w[i] < 'a' || w[i] > 'z' {
			return false
		}
	}
	return len(w) >= 1 && len(w) <= maxSpice
}

// items returns the items of a change, rising, each once.
func (o order) items() []int {
	var l []int
	if o.item != noItem {
		l = append(l, o.item)
	}
	for _, i := range o.n[:o.lots] {
		l = append(l, firstLot+i%lotItems)
	}
	slices.Sort(l)
	return slices.Compact(l)
}
