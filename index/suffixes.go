package index

import (
	"slices"
	"strings"

	"cubeb/api"
)

// suffixes returns the suffix array of t.
func suffixes(t string) []int {
	l := make([]int, len(t)+1)
	for i := range l {
		l[i] = i
	}
	slices.SortFunc(l, func(i, j int) int { return strings.Compare(t[i:], t[j:]) })
	return l
}

// common returns the common beginnings of t.
func common(t string) []int {
	order := suffixes(t)
	l := make([]int, len(t))
	for i := range l {
		l[i] = agreement(t[order[i]:], t[order[i+1]:])
	}
	return l
}

// agreement returns in how many bytes a and b agree from the front.
func agreement(a, b string) int {
	n := 0
	for n < len(a) && n < len(b) && a[n] == b[n] {
		n++
	}
	return n
}

// Sort returns the suffix array.
func Sort(t string) ([]int, api.Errno) {
	if !isLabel(t) {
		return nil, api.ErrArg
	}
	return suffixes(t), api.OK
}

// Common returns the common beginnings.
func Common(t string) ([]int, api.Errno) {
	if !isLabel(t) {
		return nil, api.ErrArg
	}
	return common(t), api.OK
}

func transform(t string) string {
	var b strings.Builder
	for _, i := range suffixes(t) {
		if i == 0 {
			b.WriteByte(end)
		} else {
			b.WriteByte(t[i-1])
		}
	}
	return b.String()
}

// Transform returns the transform.
func Transform(t string) (string, api.Errno) {
	if !isLabel(t) {
		return "", api.ErrArg
	}
	return transform(t), api.OK
}

// Back returns the label of a transform.
func Back(s string) (string, api.Errno) {
	if !isText(s) {
		return "", api.ErrArg
	}
	t, ok := label(s)
	if !ok {
		return "", api.ErrForm
	}
	return t, api.OK
}

// label returns the label whose transform is s, if there is one.
func label(s string) (string, bool) {
	if strings.Count(s, string(rune(end))) != 1 {
		return "", false
	}
	// Sorted stably, the bytes of s are the first bytes of the suffixes: next has the place of the suffix that begins with a byte.
	order := make([]int, len(s))
	for i := range order {
		order[i] = i
	}
	slices.SortStableFunc(order, func(i, j int) int { return int(s[i]) - int(s[j]) })
	next := make([]int, len(s))
	for place, i := range order {
		next[i] = place
	}
	t := make([]byte, len(s)-1)
	at := 0
	for i := len(t) - 1; i >= 0; i-- {
		if s[at] == end {
			return "", false
		}
		t[i] = s[at]
		at = next[at]
	}
	return string(t), transform(string(t)) == s
}

// Longest returns the longest string that repeats.
func Longest(t string) (string, api.Errno) {
	if !isLabel(t) {
		return "", api.ErrArg
	}
	order := suffixes(t)
	best := ""
	// The suffixes are gone through in their order, so the first of the longest strings comes first.
	for i, n := range common(t) {
		if n > len(best) {
			best = t[order[i] : order[i]+n]
		}
	}
	if best == "" {
		return "", api.ErrNone
	}
	return best, api.OK
}

// Distinct returns how many strings have an occurrence.
func Distinct(t string) (int, api.Errno) {
	if !isLabel(t) {
		return 0, api.ErrArg
	}
	n := len(t) * (len(t) + 1) / 2
	for _, x := range common(t) {
		n -= x
	}
	return n, api.OK
}

const maxLetters = 8

func validLetters(letters string) bool {
	if len(letters) < 1 || len(letters) > maxLetters {
		return false
	}
	for i := range len(letters) {
		if !isLetter(letters[i]) || i > 0 && letters[i] <= letters[i-1] {
			return false
		}
	}
	return true
}

// Absent returns the shortest string without an occurrence.
func Absent(t string, letters string) (string, api.Errno) {
	if !isLabel(t) || !validLetters(letters) {
		return "", api.ErrArg
	}
	present := []string{""}
	// As long as all strings of a length are there, they are as few as the places of the label.
	for {
		var longer []string
		for _, s := range present {
			for i := range len(letters) {
				next := s + string(rune(letters[i]))
				if !strings.Contains(t, next) {
					return next, api.OK
				}
				longer = append(longer, next)
			}
		}
		present = longer
	}
}

// Match returns the lengths of matches.
func Match(t, p string) ([]int, api.Errno) {
	if !isLabel(t) || !isLabel(p) {
		return nil, api.ErrArg
	}
	l := make([]int, len(p))
	n := 0
	for i := range l {
		// What is left of the match before is a match.
		n = max(n-1, 0)
		for i+n < len(p) && strings.Contains(t, p[i:i+n+1]) {
			n++
		}
		l[i] = n
	}
	return l, api.OK
}
