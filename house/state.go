package house

import (
	"strconv"

	"cubeb/api"
	"cubeb/chordal"
)

const (
	maxLots  = 20
	bayCount = 8
	noBay    = -1
)

type lot struct {
	spice      string
	grams, bay int
	closed     bool
}

// event is a contact of the lots a and b, or a test of the lot a.
type event struct {
	isTest, good bool
	a, b         int
}

func (e event) String() string {
	switch {
	case e.isTest && e.good:
		return "test " + strconv.Itoa(e.a) + " good"
	case e.isTest:
		return "test " + strconv.Itoa(e.a) + " bad"
	}
	return "touch " + strconv.Itoa(e.a) + " " + strconv.Itoa(e.b)
}

// state is the state of a warehouse.
type state struct {
	adjoins chordal.Graph
	lots    []lot
	events  []event
}

// lotOf returns the lot of a number, or nil.
func (s *state) lotOf(i int) *lot {
	if i < 1 || i > len(s.lots) {
		return nil
	}
	return &s.lots[i-1]
}

func (s *state) add(l lot) int {
	s.lots = append(s.lots, l)
	return len(s.lots)
}

// needs returns ErrNone if a lot of one of the numbers is not there.
func (s *state) needs(numbers ...int) api.Errno {
	for _, i := range numbers {
		if s.lotOf(i) == nil {
			return api.ErrNone
		}
	}
	return api.OK
}

func (s *state) checkTake(o order) api.Errno {
	if len(s.lots) >= maxLots {
		return api.ErrFull
	}
	if o.n[0] == 0 {
		return api.ErrArg
	}
	return api.OK
}

func (s *state) take(o order) string {
	return "take " + strconv.Itoa(s.add(lot{spice: o.spice, grams: o.n[0], bay: noBay}))
}

func (s *state) checkBlend(o order) api.Errno {
	if len(s.lots) >= maxLots {
		return api.ErrFull
	}
	if e := s.needs(o.n[0], o.n[1]); e != api.OK {
		return e
	}
	w := o.n[2]
	if o.n[0] == o.n[1] || w == 0 || !s.lotOf(o.n[0]).gives(w) || !s.lotOf(o.n[1]).gives(w) {
		return api.ErrState
	}
	return api.OK
}

// gives reports whether w grams can be taken from a lot.
func (l *lot) gives(w int) bool { return !l.closed && l.grams >= w }

func (s *state) blend(o order) string {
	i, j, w := o.n[0], o.n[1], o.n[2]
	s.lotOf(i).grams -= w
	s.lotOf(j).grams -= w
	k := s.add(lot{spice: "blend", grams: 2 * w, bay: noBay})
	s.events = append(s.events, event{a: k, b: i}, event{a: k, b: j})
	return "blend " + strconv.Itoa(k)
}

func (s *state) checkPut(o order) api.Errno {
	i, b := o.n[0], o.n[1]
	if e := s.needs(i); e != api.OK {
		return e
	}
	if b >= bayCount {
		return api.ErrArg
	}
	if s.lotOf(i).closed {
		return api.ErrState
	}
	for j, l := range s.lots {
		if j+1 == i || l.closed || l.bay == noBay {
			continue
		}
		if l.bay == b || l.spice != s.lotOf(i).spice && s.adjoins[b]>>l.bay&1 == 1 {
			return api.ErrState
		}
	}
	return api.OK
}

func (s *state) put(o order) string {
	s.lotOf(o.n[0]).bay = o.n[1]
	return "put"
}

func (s *state) checkTouch(o order) api.Errno {
	if e := s.needs(o.n[0], o.n[1]); e != api.OK {
		return e
	}
	if o.n[0] == o.n[1] {
		return api.ErrState
	}
	return api.OK
}

func (s *state) touch(o order) string {
	s.events = append(s.events, event{a: o.n[0], b: o.n[1]})
	return "touch"
}

func (s *state) checkTest(o order) api.Errno { return s.needs(o.n[0]) }

func (s *state) test(o order) string {
	s.events = append(s.events, event{isTest: true, good: o.good, a: o.n[0]})
	return "test"
}

func (s *state) checkClose(o order) api.Errno {
	if e := s.needs(o.n[0]); e != api.OK {
		return e
	}
	if s.lotOf(o.n[0]).closed {
		return api.ErrState
	}
	return api.OK
}

func (s *state) close(o order) string {
	l := s.lotOf(o.n[0])
	l.closed = true
	l.bay = noBay
	return "close"
}
