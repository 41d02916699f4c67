// Package points: sets of code points: see ../shared/doc/01-points.md.
package points

import (
	"strings"
	"unicode/utf8"

	"grammarsmith/api"
)

// Points: the points of a text.
func Points(s string) []int {
	var out []int
	for _, r := range s {
		out = append(out, int(r))
	}
	return out
}

// Text: the text of points.
func Text(l []int) string {
	var b strings.Builder
	for _, p := range l {
		b.WriteRune(runeOf(p))
	}
	return b.String()
}

// runeOf looks at the whole number first: cut to a rune, one far outside could become a code point. (Halves of pairs are left to WriteRune, which writes them as FFFD.)
func runeOf(p int) rune {
	if p < 0 || p > api.MaxPoint {
		return utf8.RuneError
	}
	return rune(p)
}

// Canon: a set in canonical form.
func Canon(l []api.Range) []api.Range {
	return sweep(l, nil, func(inA, _ bool) bool { return inA })
}

// Join: the points of both.
func Join(a, b []api.Range) []api.Range {
	return sweep(a, b, func(inA, inB bool) bool { return inA || inB })
}

// Meet: the points that lie in both.
func Meet(a, b []api.Range) []api.Range {
	return sweep(a, b, func(inA, inB bool) bool { return inA && inB })
}

// Less: the points of a that do not lie in b.
func Less(a, b []api.Range) []api.Range {
	return sweep(a, b, func(inA, inB bool) bool { return inA && !inB })
}

// Other: the points that do not lie in a.
func Other(a []api.Range) []api.Range {
	return sweep(a, nil, func(inA, _ bool) bool { return !inA })
}

// Has: whether a point lies in a set.
func Has(a []api.Range, p int) bool {
	if p < 0 || p > api.MaxPoint {
		return false
	}
	for _, r := range a {
		if r.Lo <= p && p <= r.Hi {
			return true
		}
	}
	return false
}

// Size: how many points a set has.
func Size(a []api.Range) int {
	n := 0
	for _, r := range Canon(a) {
		n += r.Hi - r.Lo + 1
	}
	return n
}

// Classes: the points in as few classes as can be.
func Classes(l [][]api.Range) [][]api.Range {
	var classes [][]api.Range
	m := newMembership(len(l))
	classOf := map[int]int{}
	eachStretch(l, m.step, func(r api.Range) {
		c, known := classOf[m.number()]
		if !known {
			c = len(classes)
			classOf[m.number()] = c
			classes = append(classes, nil)
		}
		classes[c] = extend(classes[c], r)
	})
	return classes
}
