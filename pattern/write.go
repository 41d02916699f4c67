package pattern

import (
	"slices"
	"strconv"
	"strings"

	"grammarsmith/api"
	"grammarsmith/points"
)

// Where a pattern may stand without brackets, the loosest place first.
const (
	asPattern = iota
	asBoth
	asRow
	asPart
	asUnit
)

// writer puts a text together. signs gives what stands behind a stroke for a point.
type writer struct {
	strings.Builder
	signs map[int]rune
}

func newWriter() *writer {
	w := &writer{signs: map[int]rune{}}
	for sign, p := range escapes() {
		w.signs[p] = sign
	}
	return w
}

// put writes a valid pattern where place is asked. Behind what is too long already nothing is written: one set may stand in many patterns.
func (w *writer) put(p *api.Re, place int) {
	if w.Len() > api.MaxText {
		return
	}
	own := placeOf(p.Kind)
	if own < place {
		w.WriteByte('(')
	}
	switch p.Kind {
	case api.RSet:
		w.WriteString(w.set(p.Set))
	case api.RCat:
		w.row(p.Kids)
	case api.ROr:
		w.between(p.Kids, '|', asBoth)
	case api.RAnd:
		w.between(p.Kids, '&', asRow)
	case api.RNot:
		w.WriteByte('~')
		w.put(p.Kids[0], asUnit)
	case api.RRep:
		w.put(p.Kids[0], asPart)
		w.WriteString(times(p.Min, p.Max))
	}
	if own < place {
		w.WriteByte(')')
	}
}

func placeOf(kind int) int {
	switch kind {
	case api.ROr:
		return asPattern
	case api.RAnd:
		return asBoth
	case api.RCat:
		return asRow
	case api.RRep:
		return asPart
	}
	return asUnit
}

// row writes an empty row as brackets: nothing at all would be hard to see.
func (w *writer) row(kids []*api.Re) {
	if len(kids) == 0 {
		w.WriteString("()")
	}
	for _, k := range kids {
		w.put(k, asPart)
	}
}

func (w *writer) between(kids []*api.Re, sign byte, place int) {
	for i, k := range kids {
		if i > 0 {
			w.WriteByte(sign)
		}
		w.put(k, place)
	}
}

func times(least, most int) string {
	switch {
	case least == 0 && most == -1:
		return "*"
	case least == 1 && most == -1:
		return "+"
	case least == 0 && most == 1:
		return "?"
	case most == -1:
		return "{" + strconv.Itoa(least) + ",}"
	case least == most:
		return "{" + strconv.Itoa(least) + "}"
	}
	return "{" + strconv.Itoa(least) + "," + strconv.Itoa(most) + "}"
}

// set gives the shortest of the texts of a set: what is nearly all is short by what it is not.
func (w *writer) set(set []api.Range) string {
	if len(set) == 1 && set[0].Lo == set[0].Hi {
		return w.point(set[0].Lo, outerSigns)
	}
	if slices.Equal(set, anyButNewline()) {
		return "."
	}
	these, others := "["+w.items(set)+"]", "[^"+w.items(points.Other(set))+"]"
	if len(others) < len(these) {
		return others
	}
	return these
}

func (w *writer) items(set []api.Range) string {
	var b strings.Builder
	for _, r := range set {
		b.WriteString(w.point(r.Lo, innerSigns))
		if r.Hi > r.Lo+1 {
			b.WriteByte('-')
		}
		if r.Hi > r.Lo {
			b.WriteString(w.point(r.Hi, innerSigns))
		}
	}
	return b.String()
}

// point writes a point where some signs have a meaning. A ` is never written as itself: so the text may stand between two of them in a grammar's text.
func (w *writer) point(p int, signs string) string {
	c := rune(p)
	if plainToSee(c) && c != '`' && !strings.ContainsRune(signs, c) {
		return string(c)
	}
	if sign, known := w.signs[p]; known {
		return `\` + string(sign)
	}
	return `\u{` + strconv.FormatInt(int64(p), 16) + "}"
}

// plainToSee says of the letters and signs of ASCII and of the Latin letters behind it that they can be read as they stand; all others are told by their numbers. (0xAD is a hyphen that is not always shown. Of all code points only a large table could say it.)
func plainToSee(c rune) bool {
	return c >= ' ' && c <= '~' || c >= 0xA1 && c <= 0x24F && c != 0xAD
}
