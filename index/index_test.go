package index

import (
	"math/rand"
	"reflect"
	"slices"
	"strings"
	"testing"

	"cubeb/api"
)

func want[T any](t *testing.T, what string, got T, e api.Errno, expect T, err api.Errno) {
	t.Helper()
	if e != err || !reflect.DeepEqual(got, expect) {
		t.Errorf("%s: got %v, %d; want %v, %d", what, got, e, expect, err)
	}
}

// errOf returns the error of a call, and -1 if another result of a call with an error is not empty.
func errOf(results ...any) api.Errno {
	last := len(results) - 1
	e := results[last].(api.Errno)
	for _, x := range results[:last] {
		v := reflect.ValueOf(x)
		if e != api.OK && !v.IsZero() && (v.Kind() != reflect.Slice || v.Len() > 0) {
			return -1
		}
	}
	return e
}

func someText(r *rand.Rand, size int, letters string) string {
	b := make([]byte, r.Intn(size+1))
	for i := range b {
		b[i] = letters[r.Intn(len(letters))]
	}
	return string(b)
}

func sample(f func(r *rand.Rand, t string)) {
	r := rand.New(rand.NewSource(1))
	for i := range 600 {
		letters := []string{"ab", "abc", " ~", "mace cubeb"}[i%4]
		f(r, someText(r, 12, letters))
	}
	all := make([]byte, 95)
	for i := range all {
		all[i] = byte(126 - i)
	}
	for _, t := range []string{"", strings.Repeat("a", 200), strings.Repeat("ab", 100), string(all) + string(all)} {
		f(r, t)
	}
}

var badLabels = []string{"\n", "a\x1f", "\x7f", "a\x00", "\xff", "é", strings.Repeat("a", 201)}

func TestLabels(t *testing.T) {
	x, _ := New("abab")
	for _, s := range badLabels {
		e1 := errOf(Sort(s))
		e2 := errOf(Common(s))
		e3 := errOf(Transform(s))
		e4 := errOf(New(s))
		e5 := errOf(x.Count(s))
		e6 := errOf(x.Locate(s))
		e7 := errOf(Longest(s))
		e8 := errOf(Distinct(s))
		e9 := errOf(Absent(s, "a"))
		e10 := errOf(Match(s, "a"))
		e11 := errOf(Match("a", s))
		for i, e := range []api.Errno{e1, e2, e3, e4, e5, e6, e7, e8, e9, e10, e11} {
			if e != api.ErrArg {
				t.Error(s, i, e)
			}
		}
	}
}

func TestSort(t *testing.T) {
	l, e := Sort("abab")
	want(t, "Sort", l, e, []int{4, 2, 0, 3, 1}, api.OK)
	l, e = Sort("")
	want(t, "Sort of nothing", l, e, []int{0}, api.OK)
	c, e := Common("abab")
	want(t, "Common", c, e, []int{0, 2, 0, 1}, api.OK)
	c, e = Common("")
	want(t, "Common of nothing", c, e, []int{}, api.OK)
	sample(func(r *rand.Rand, s string) {
		l, _ := Sort(s)
		c, _ := Common(s)
		if len(l) != len(s)+1 || len(c) != len(s) {
			t.Fatal(s, l, c)
		}
		for i, n := range c {
			a, b := s[l[i]:], s[l[i+1]:]
			if a >= b || a[:n] != b[:n] || n < len(a) && a[n] == b[n] {
				t.Error(s, l, c, i)
			}
		}
		sorted := slices.Sorted(slices.Values(l))
		for i, x := range sorted {
			if i != x {
				t.Error("no permutation", s, l)
			}
		}
	})
}

func TestTransform(t *testing.T) {
	s, e := Transform("abab")
	want(t, "Transform", s, e, "bb\naa", api.OK)
	s, e = Transform("")
	want(t, "Transform of nothing", s, e, "\n", api.OK)
	sample(func(r *rand.Rand, text string) {
		s, e := Transform(text)
		l, _ := Sort(text)
		for i, x := range l {
			if x > 0 && s[i] != text[x-1] || x == 0 && s[i] != '\n' {
				t.Error(text, s, i)
			}
		}
		a, b := []byte(text+"\n"), []byte(s)
		slices.Sort(a)
		slices.Sort(b)
		want(t, "bytes of the transform", b, e, a, api.OK)
		back, e := Back(s)
		want(t, "Back", back, e, text, api.OK)
	})
}

func TestBack(t *testing.T) {
	for _, s := range []string{"", "ab", "\n\n", "a\n\n", "\na", "\nab", "a\nb\n"} {
		l, e := Back(s)
		want(t, "Back of "+s, l, e, "", api.ErrForm)
	}
	for _, s := range []string{"a\t", "\x7f\n", "\x1f\n", strings.Repeat("a", 201) + "\n"} {
		e1 := errOf(Back(s))
		e2 := errOf(Wavelet(s))
		if e1 != api.ErrArg || e2 != api.ErrArg {
			t.Error(s, e1, e2)
		}
	}
	// Every string of few letters: just those that are the transform of a label have one.
	labels := map[string]string{}
	var each func(s, letters string, size int, f func(string))
	each = func(s, letters string, size int, f func(string)) {
		f(s)
		for i := 0; i < len(letters) && len(s) < size; i++ {
			each(s+letters[i:i+1], letters, size, f)
		}
	}
	each("", "ab", 6, func(s string) { u, _ := Transform(s); labels[u] = s })
	each("", "\nab", 7, func(s string) {
		l, e := Back(s)
		text, there := labels[s]
		want(t, "Back", l, e, text, map[bool]api.Errno{true: api.OK, false: api.ErrForm}[there])
	})
}

// slowWavelet follows the words of the document.
func slowWavelet(s string) string {
	var letters []string
	for c := range 127 {
		if strings.ContainsRune(s, rune(c)) {
			letters = append(letters, string(rune(c)))
		}
	}
	k := len(letters)
	if k <= 1 {
		return ""
	}
	split := letters[(k+1)/2]
	bits, low, high := "", "", ""
	for i := range len(s) {
		if s[i:i+1] >= split {
			bits += "1"
			high += s[i : i+1]
		} else {
			bits += "0"
			low += s[i : i+1]
		}
	}
	return bits + slowWavelet(low) + slowWavelet(high)
}

func TestWavelet(t *testing.T) {
	s, e := Wavelet("abca")
	want(t, "Wavelet", s, e, "0010010", api.OK)
	s, e = Wavelet("")
	want(t, "Wavelet of nothing", s, e, "", api.OK)
	s, e = Wavelet("\n\n")
	want(t, "Wavelet of one byte", s, e, "", api.OK)
	s, e = Wavelet("a\n")
	want(t, "Wavelet of two bytes", s, e, "10", api.OK)
	sample(func(r *rand.Rand, text string) {
		u, _ := Transform(text)
		for _, x := range []string{text, u} {
			s, e := Wavelet(x)
			want(t, "Wavelet", s, e, slowWavelet(x), api.OK)
			if len(s) > 7*len(x) {
				t.Error("too many bits", x)
			}
		}
	})
}

func occurrences(s, p string) []int {
	var l []int
	for i := 0; i+len(p) <= len(s); i++ {
		if s[i:i+len(p)] == p {
			l = append(l, i)
		}
	}
	return l
}

func TestSearch(t *testing.T) {
	x, e := New("abab")
	if e != api.OK {
		t.Fatal(e)
	}
	n, e := x.Count("ab")
	want(t, "Count", n, e, 2, api.OK)
	n, e = x.Count("")
	want(t, "Count of nothing", n, e, 5, api.OK)
	l, e := x.Locate("ab")
	want(t, "Locate", l, e, []int{0, 2}, api.OK)
	l, e = x.Locate("")
	want(t, "Locate nothing", l, e, []int{0, 1, 2, 3, 4}, api.OK)
	l, e = x.Locate("c")
	want(t, "Locate what is not there", l, e, nil, api.OK)
	s, e := x.Extract(1, 3)
	want(t, "Extract", s, e, "ba", api.OK)
	sample(func(r *rand.Rand, text string) {
		x, e := New(text)
		if e != api.OK {
			t.Fatal(e)
		}
		for range 20 {
			p := someText(r, 3, "ab c~!")
			if len(text) > 0 && r.Intn(2) == 0 {
				i := r.Intn(len(text))
				p = text[i : i+r.Intn(len(text)-i+1)]
			}
			n, e := x.Count(p)
			want(t, "Count", n, e, len(occurrences(text, p)), api.OK)
			l, e := x.Locate(p)
			want(t, "Locate", l, e, occurrences(text, p), api.OK)
		}
		u, _ := Transform(text)
		for _, c := range []byte("\x00\n ab~\xff") {
			for i := range len(u) + 1 {
				n, e := x.Rank(c, i)
				want(t, "Rank", n, e, strings.Count(u[:i], string([]byte{c})), api.OK)
			}
		}
		for range 10 {
			from := r.Intn(len(text) + 1)
			to := from + r.Intn(len(text)-from+1)
			s, e := x.Extract(from, to)
			want(t, "Extract", s, e, text[from:to], api.OK)
		}
	})
}

func TestSearchArguments(t *testing.T) {
	x, _ := New("abab")
	for _, i := range []int{-1, 6, 1 << 62, -1 << 63} {
		n, e := x.Rank('a', i)
		want(t, "Rank", n, e, 0, api.ErrArg)
	}
	n, e := x.Rank('a', 5)
	want(t, "Rank of all", n, e, 2, api.OK)
	for _, p := range [][2]int{{-1, 2}, {3, 2}, {0, 5}, {5, 5}, {1 << 62, 1 << 62}, {-1 << 63, 1<<63 - 1}} {
		s, e := x.Extract(p[0], p[1])
		want(t, "Extract", s, e, "", api.ErrArg)
	}
	s, e := x.Extract(4, 4)
	want(t, "Extract at the end", s, e, "", api.OK)
}

func TestNotMade(t *testing.T) {
	x, _ := New("abab")
	other := *x
	for _, x := range []*Index{nil, {}, &other} {
		e1 := errOf(x.Count("\n"))
		e2 := errOf(x.Locate("a"))
		e3 := errOf(x.Rank('a', -1))
		e4 := errOf(x.Extract(3, 1))
		for i, e := range []api.Errno{e1, e2, e3, e4} {
			if e != api.ErrNil {
				t.Error(i, e)
			}
		}
	}
}

func TestLongest(t *testing.T) {
	for _, x := range [][2]string{{"abab", "ab"}, {"aaaa", "aaa"}, {"abcbc", "bc"}, {"xyxyabab", "ab"}, {"bxbaxa", "a"}} {
		s, e := Longest(x[0])
		want(t, "Longest", s, e, x[1], api.OK)
	}
	for _, x := range []string{"", "a", "abc"} {
		s, e := Longest(x)
		want(t, "Longest", s, e, "", api.ErrNone)
	}
	sample(func(r *rand.Rand, text string) {
		best := ""
		if len(text) < 20 {
			for i := range len(text) {
				for j := i + 1; j <= len(text); j++ {
					s := text[i:j]
					if len(occurrences(text, s)) > 1 && (len(s) > len(best) || len(s) == len(best) && s < best) {
						best = s
					}
				}
			}
			s, e := Longest(text)
			want(t, "Longest", s, e, best, map[bool]api.Errno{true: api.OK, false: api.ErrNone}[best != ""])
		}
	})
}

func TestDistinct(t *testing.T) {
	n, e := Distinct("abab")
	want(t, "Distinct", n, e, 7, api.OK)
	sample(func(r *rand.Rand, text string) {
		seen := map[string]bool{}
		for i := range len(text) {
			for j := i + 1; j <= len(text); j++ {
				seen[text[i:j]] = true
			}
		}
		n, e := Distinct(text)
		want(t, "Distinct", n, e, len(seen), api.OK)
		l, _ := Common(text)
		for _, x := range l {
			n += x
		}
		want(t, "with the common beginnings", n, e, len(text)*(len(text)+1)/2, api.OK)
	})
}

func TestAbsent(t *testing.T) {
	for _, x := range [][3]string{{"abab", "ab", "aa"}, {"", "bc", "b"}, {"b", "ab", "a"}, {"ba", "ab", "aa"}, {"aabb", "ab", "ba"}, {strings.Repeat("a", 200), "a", strings.Repeat("a", 201)}} {
		s, e := Absent(x[0], x[1])
		want(t, "Absent", s, e, x[2], api.OK)
	}
	for _, letters := range []string{"", "ba", "aa", "abcdefghi", "\n", "\x7f", "a\x80"} {
		s, e := Absent("a", letters)
		want(t, "Absent", s, e, "", api.ErrArg)
	}
	s, e := Absent("abcdefgh", "abcdefgh")
	want(t, "8 letters", s, e, "aa", api.OK)
	sample(func(r *rand.Rand, text string) {
		s, e := Absent(text, "ab")
		if e != api.OK || strings.Contains(text, s) {
			t.Error(text, s, e)
		}
		for n := range 1 << len(s) {
			if len(s) > 9 {
				break
			}
			other := ""
			for i := range len(s) {
				other += string(rune('a' + n>>(len(s)-1-i)&1))
			}
			shorter := other[:max(len(s)-1, 0)]
			if other < s && !strings.Contains(text, other) || !strings.Contains(text, shorter) {
				t.Error(text, s, other)
			}
		}
	})
}

func TestMatch(t *testing.T) {
	l, e := Match("abab", "bba")
	want(t, "Match", l, e, []int{1, 2, 1}, api.OK)
	l, e = Match("abab", "")
	want(t, "Match of nothing", l, e, []int{}, api.OK)
	sample(func(r *rand.Rand, text string) {
		p := someText(r, 9, "abc ")
		l, e := Match(text, p)
		for i := range len(p) {
			n := 0
			for i+n < len(p) && len(occurrences(text, p[i:i+n+1])) > 0 {
				n++
			}
			if e != api.OK || l[i] != n || i > 0 && n < l[i-1]-1 {
				t.Error(text, p, l, e)
			}
		}
		l, e = Match(text, text)
		for i := range len(text) {
			if l[i] != len(text)-i || e != api.OK {
				t.Error(text, l)
			}
		}
	})
}
