package house

import (
	"math/rand"
	"reflect"
	"slices"
	"strings"
	"testing"

	"cubeb/api"
)

func want[T any](t *testing.T, what string, got T, e api.Errno, expect T, err api.Errno) {
	t.Helper()
	if e != err || !reflect.DeepEqual(got, expect) {
		t.Errorf("%s: got %v, %d; want %v, %d", what, got, e, expect, err)
	}
}

// errOf returns the error of a call, and -1 if another result of a call with an error is not empty.
func errOf(results ...any) api.Errno {
	last := len(results) - 1
	e := results[last].(api.Errno)
	for _, x := range results[:last] {
		v := reflect.ValueOf(x)
		if e != api.OK && !v.IsZero() && (v.Kind() != reflect.Slice || v.Len() > 0) {
			return -1
		}
	}
	return e
}

func newDisk(t *testing.T, size int) *Disk {
	t.Helper()
	d, e := NewDisk(size)
	if e != api.OK {
		t.Fatal(e)
	}
	return d
}

func wantBytes(t *testing.T, d *Disk, s string) {
	t.Helper()
	b, e := d.Read()
	want(t, "Read", string(b), e, s, api.OK)
}

func TestNewDisk(t *testing.T) {
	for _, size := range []int{0, -1, 1000001, 1 << 62, -1 << 63} {
		if d, e := NewDisk(size); d != nil || e != api.ErrArg {
			t.Error(size, d, e)
		}
	}
	for _, size := range []int{1, 1000000} {
		d := newDisk(t, size)
		want(t, "Append of all", 0, d.Append(make([]byte, size)), 0, api.OK)
		want(t, "Append of nothing", 0, d.Append(nil), 0, api.OK)
		want(t, "Append of one more", 0, d.Append([]byte{1}), 0, api.ErrFull)
	}
}

func TestDisk(t *testing.T) {
	d := newDisk(t, 10)
	wantBytes(t, d, "")
	b := []byte("abc")
	want(t, "Append", 0, d.Append(b), 0, api.OK)
	b[0] = 'x'
	wantBytes(t, d, "abc")
	c, _ := d.Read()
	c[0] = 'x'
	wantBytes(t, d, "abc")
	want(t, "Sync", 0, d.Sync(), 0, api.OK)
	want(t, "Append", 0, d.Append([]byte("defg")), 0, api.OK)
	d.Crash(2)
	wantBytes(t, d, "abcde")
	want(t, "Append", 0, d.Append([]byte("xyz")), 0, api.OK)
	d.Crash(-5)
	wantBytes(t, d, "abcde")
	want(t, "Append", 0, d.Append([]byte("xyz")), 0, api.OK)
	d.Crash(1 << 62)
	wantBytes(t, d, "abcdexyz")
	d.Crash(0)
	wantBytes(t, d, "abcdexyz")
	for _, n := range []int{-1, 9, 1 << 62} {
		want(t, "Cut", 0, d.Cut(n), 0, api.ErrArg)
	}
	want(t, "Append", 0, d.Append([]byte("uv")), 0, api.OK)
	want(t, "Cut", 0, d.Cut(9), 0, api.OK)
	d.Crash(0)
	wantBytes(t, d, "abcdexyzu")
	want(t, "Append", 0, d.Append([]byte("12")), 0, api.ErrFull)
	want(t, "Cut of nothing", 0, d.Cut(9), 0, api.OK)
	wantBytes(t, d, "abcdexyzu")
	want(t, "Cut", 0, d.Cut(0), 0, api.OK)
	wantBytes(t, d, "")
}

func TestFuse(t *testing.T) {
	d := newDisk(t, 10)
	d.Fuse(3)
	want(t, "Append", 0, d.Append([]byte("ab")), 0, api.OK)
	want(t, "no operation", 0, d.Append(make([]byte, 9)), 0, api.ErrFull)
	want(t, "no operation", 0, d.Cut(3), 0, api.ErrArg)
	want(t, "Sync", 0, d.Sync(), 0, api.OK)
	wantBytes(t, d, "ab")
	want(t, "Append", 0, d.Append([]byte("cd")), 0, api.OK)
	want(t, "the power goes off", 0, d.Append([]byte("ef")), 0, api.ErrPower)
	b, e := d.Read()
	want(t, "Read", b, e, nil, api.ErrPower)
	d.Fuse(-1)
	d.Fuse(5)
	want(t, "the power is off", 0, d.Sync(), 0, api.ErrPower)
	want(t, "ErrFull before ErrPower", 0, d.Append(make([]byte, 9)), 0, api.ErrFull)
	want(t, "ErrArg before ErrPower", 0, d.Cut(5), 0, api.ErrArg)
	want(t, "Cut", 0, d.Cut(0), 0, api.ErrPower)
	d.Crash(1)
	wantBytes(t, d, "abc")
	for range 10 {
		want(t, "no fuse", 0, d.Sync(), 0, api.OK)
	}
	d.Fuse(0)
	wantBytes(t, d, "abc")
	want(t, "Cut", 0, d.Cut(1), 0, api.ErrPower)
	d.Crash(0)
	wantBytes(t, d, "abc")
	d.Fuse(0)
	d.Fuse(-1 << 63)
	want(t, "a fuse taken away", 0, d.Cut(1), 0, api.OK)
	d.Fuse(0)
	d.Fuse(1)
	want(t, "another fuse", 0, d.Sync(), 0, api.OK)
	want(t, "another fuse", 0, d.Sync(), 0, api.ErrPower)
}

func TestNotMade(t *testing.T) {
	d := newDisk(t, 10)
	other := *d
	for _, d := range []*Disk{nil, {}, &other} {
		e1 := errOf(d.Read())
		e2 := errOf(Open(d, nil))
		for i, e := range []api.Errno{d.Append(make([]byte, 11)), d.Sync(), d.Cut(-1), e1, e2} {
			if e != api.ErrNil {
				t.Error(i, e)
			}
		}
		d.Fuse(0)
		d.Crash(0)
	}
	h, _ := Open(d, path)
	twin := *h
	for _, h := range []*House{nil, {}, &twin} {
		e1 := errOf(h.Do("x"))
		e2 := errOf(h.Ask("x"))
		e3 := errOf(h.Day(make([]Call, 13)))
		for i, e := range []api.Errno{e1, e2, e3} {
			if e != api.ErrNil {
				t.Error(i, e)
			}
		}
		if h.Journal() != nil || h.State() != "" {
			t.Error("a House that Open did not make")
		}
	}
}

// TestDurability cuts the power at every operation of some days of work.
func TestDurability(t *testing.T) {
	r := rand.New(rand.NewSource(1))
	for range 60 {
		var lines []string
		for range 12 {
			lines = append(lines, someLine(r))
		}
		for fuse := range 30 {
			for keep := range 18 {
				tryPowerLoss(t, r, lines, fuse, keep)
			}
		}
	}
}

func TestOpenPower(t *testing.T) {
	for _, x := range []struct {
		bytes      string
		operations int
	}{{"take mace 5\n", 1}, {"take mace 5\ntake", 2}, {"", 1}} {
		for fuse := range 3 {
			d := newDisk(t, 100)
			d.Append([]byte(x.bytes))
			d.Fuse(fuse)
			h, e := Open(d, path)
			if fuse < x.operations {
				if h != nil || e != api.ErrPower {
					t.Error(x, fuse, e)
				}
				continue
			}
			_, f := h.Do("take salt 5")
			if e != api.OK || (f == api.OK) != (fuse-x.operations >= 2) {
				t.Error(x, fuse, e, f)
			}
			d.Crash(0)
			want(t, "what Open found is safe", len(h.Journal()), e, strings.Count(x.bytes, "\n"), api.OK)
		}
	}
}

func tryPowerLoss(t *testing.T, r *rand.Rand, lines []string, fuse, keep int) {
	t.Helper()
	d := newDisk(t, 1000)
	h, e := Open(d, path)
	if e != api.OK {
		t.Fatal(e)
	}
	d.Fuse(fuse)
	var done []string
	lost := ""
	for _, s := range lines {
		before := h.State()
		_, e := h.Do(s)
		if lost != "" {
			want(t, "after the power went off", 0, e, 0, api.ErrState)
		} else if e == api.OK {
			done = append(done, s)
		} else if e == api.ErrPower {
			lost = s
		}
		if e != api.OK && h.State() != before {
			t.Error("an error changed the state", s, e)
		}
	}
	want(t, "Journal", h.Journal(), api.OK, done, api.OK)
	d.Crash(keep)
	again, e := Open(d, path)
	if e != api.OK {
		t.Fatal(e)
	}
	if j := again.Journal(); !slices.Equal(j, done) && (lost == "" || !slices.Equal(j, append(slices.Clone(done), lost))) {
		t.Error("lost something", lines, fuse, keep, j, done)
	}
	if again.State() != replayed(t, again.Journal()) {
		t.Error("another state", again.State())
	}
	// A power loss while the journal is opened loses nothing.
	journal := again.Journal()
	d.Append([]byte("take mace"))
	d.Fuse(r.Intn(2))
	if h, e := Open(d, path); h != nil || e != api.ErrPower {
		t.Error(h, e)
	}
	d.Crash(r.Intn(20))
	again, e = Open(d, path)
	want(t, "Open", again.Journal(), e, journal, api.OK)
}

// replayed returns the state that lines make of a new House.
func replayed(t *testing.T, lines []string) string {
	t.Helper()
	h, e := Open(newDisk(t, 100000), path)
	if e != api.OK {
		t.Fatal(e)
	}
	for _, s := range lines {
		if _, e := h.Do(s); e != api.OK {
			t.Error(s, e)
		}
	}
	return h.State()
}
