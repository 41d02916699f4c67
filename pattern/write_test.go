package pattern_test

import (
	"strings"
	"testing"

	"grammarsmith/api"
	"grammarsmith/pattern"
)

// checkBack asks that Read turns what Write gives into the same pattern.
func checkBack(t *testing.T, name string, p *api.Re) string {
	t.Helper()
	text, err := pattern.Write(p)
	if err != nil || len(text) > api.MaxText {
		t.Fatalf("%s: %d bytes, %v", name, len(text), err)
	}
	got, err := pattern.Read(text)
	if err != nil || !same(got, p) {
		t.Fatalf("%s: %.200q is read as %+v, %v", name, text, got, err)
	}
	return text
}

// kinds are patterns of each kind, to be put into each other.
func kinds() map[string]*api.Re {
	a := one('a')
	return map[string]*api.Re{
		"a point": a, "a set": span('a', 'z'), "no point": setOf(), "all points": span(0, api.MaxPoint), "dot": dot(),
		"an empty row": cat(), "a row": cat(a, one('b')), "an or": or(a, one('b')), "an and": and(a, one('b')), "a not": not(a),
		"*": rep(a, 0, -1), "+": rep(a, 1, -1), "?": rep(a, 0, 1), "{1}": rep(a, 1, 1), "{4}": rep(a, 4, 4), "{4,}": rep(a, 4, -1), "{2,3}": rep(a, 2, 3), "{0,2}": rep(a, 0, 2),
	}
}

// around are the patterns of one and of two others.
func around(p, q *api.Re) []*api.Re {
	return []*api.Re{not(p), rep(p, 0, -1), rep(p, 2, 3), cat(p, q), cat(q, p), or(p, q), or(q, p), and(p, q), and(q, p)}
}

// P23: each kind in each other, in each other.
func TestWriteOfEachInEach(t *testing.T) {
	for name, p := range kinds() {
		checkBack(t, name, p)
		for _, q := range kinds() {
			for _, inner := range around(p, q) {
				checkBack(t, name, inner)
				for _, outer := range around(inner, q) {
					checkBack(t, name, outer)
				}
			}
		}
	}
}

func TestWriteOfManyPatterns(t *testing.T) {
	for _, p := range validOnes(3000) {
		checkBack(t, "mixed", p)
	}
}

// P23: the deepest and the heaviest.
func TestWriteAtTheBounds(t *testing.T) {
	a := one('a')
	deep := a
	for i := range api.MaxNest {
		if i%2 == 0 {
			deep = rep(deep, 0, -1)
		} else {
			deep = not(deep)
		}
	}
	rows := a
	for range (api.MaxNest - 1) / 2 {
		rows = or(a, cat(rows, a))
	}
	checkBack(t, "ors and rows", rows)
	checkBack(t, "nots and times", deep)
	checkBack(t, "nots", nots(a, api.MaxNest))
	checkBack(t, "a row of sets", cat(times(span('a', 'z'), api.MaxWeight-1)...))
	checkBack(t, "an or of nothing", or(times(cat(), api.MaxWeight-1)...))
	checkBack(t, "MaxTimes", rep(a, api.MaxTimes, api.MaxTimes))
	checkBack(t, "MaxTimes on", rep(a, api.MaxTimes, -1))
}

// P23: each point alone, and between brackets.
func TestWriteOfEachPoint(t *testing.T) {
	check := func(p int) {
		checkBack(t, "one point", one(p))
		if p+4 <= api.MaxPoint {
			checkBack(t, "two points apart", setOf(api.Range{Lo: p, Hi: p}, api.Range{Lo: p + 4, Hi: p + 4}))
			checkBack(t, "two points", span(p, p+1))
			checkBack(t, "five points", span(p, p+4))
			checkBack(t, "all others", setOf(api.Range{Lo: 0, Hi: p}, api.Range{Lo: p + 3, Hi: api.MaxPoint}))
		}
	}
	for p := range 0x400 {
		check(p)
	}
	for _, p := range []int{0x2028, 0xD7FF, 0xD800, 0xDBFF, 0xDC00, 0xDFFF, 0xE000, 0xFEFF, 0xFFFD, 0xFFFE, 0xFFFF, 0x10000, 0x1D11E, api.MaxPoint - 4, api.MaxPoint - 1, api.MaxPoint} {
		check(p)
	}
}

// P23: every point there is, outside of brackets and within them, with the points beside it and without.
func TestWriteOfEveryPoint(t *testing.T) {
	for p := 0; p <= api.MaxPoint; {
		row := cat()
		for ; len(row.Kids) < api.MaxWeight-1 && p <= api.MaxPoint; p++ {
			row.Kids = append(row.Kids, one(p))
		}
		checkBack(t, "points in a row", row)
	}
	for p := 0; p <= api.MaxPoint; p += 3000 {
		for first := p; first < p+3; first++ {
			singles, spans := setOf(), setOf()
			for q := first; q < p+3000 && q+1 <= api.MaxPoint; q += 3 {
				singles.Set = append(singles.Set, api.Range{Lo: q, Hi: q})
				spans.Set = append(spans.Set, api.Range{Lo: q, Hi: q + 1})
			}
			checkBack(t, "points apart", singles)
			checkBack(t, "pairs of points", spans)
		}
	}
	checkBack(t, "the last point apart", setOf(api.Range{Lo: 0, Hi: 0}, api.Range{Lo: api.MaxPoint, Hi: api.MaxPoint}))
}

// What is plain to see is written as it is, and nothing else.
func TestWriteOfWhatIsPlainToSee(t *testing.T) {
	for text, p := range map[string]int{
		"a": 'a', " ": ' ', "é": 0xE9, "ß": 0xDF, "ſ": 0x17F, `\u{7f}`: 0x7F, `\u{a0}`: 0xA0, `\u{ad}`: 0xAD, `\u{300}`: 0x300, `\u{200b}`: 0x200B, `\u{d800}`: 0xD800, `\u{fffd}`: 0xFFFD, `\u{10ffff}`: api.MaxPoint,
		`\n`: 10, `\r`: 13, `\t`: 9, `\u{0}`: 0, `\u{60}`: '`', `\*`: '*', "-": '-',
	} {
		if got := checkBack(t, text, one(p)); got != text {
			t.Errorf("%x is written as %q, want %q", p, got, text)
		}
	}
}

// The text may stand between two ` of a grammar's text.
func TestWriteNeverHasAGrave(t *testing.T) {
	for _, p := range []*api.Re{one('`'), span('_', 'a'), span('`', 'z'), setOf(api.Range{Lo: 0, Hi: '`'}, api.Range{Lo: 'c', Hi: api.MaxPoint})} {
		if text := checkBack(t, "`", p); strings.Contains(text, "`") {
			t.Errorf("%q", text)
		}
	}
}

// apart is a set with so many ranges of two points, the last ones there are.
func apart(count int) *api.Re {
	p := &api.Re{Kind: api.RSet}
	for i := range count {
		lo := api.MaxPoint - 4*(count-i)
		p.Set = append(p.Set, api.Range{Lo: lo, Hi: lo + 2})
	}
	return p
}

// P23: 2,000 ranges always have a text, in one set or in many; of more it has at most MaxText bytes, or is ErrBound.
func TestWriteOfManyRanges(t *testing.T) {
	checkBack(t, "2,000 ranges in one set", apart(2000))
	checkBack(t, "2,000 ranges in 50 sets", cat(times(apart(40), 50)...))
	checkBack(t, "2,000 ranges, nested", nots(apart(2000), api.MaxNest))
	many := or(times(apart(500), 4)...)
	checkBack(t, "2,000 ranges by one set in four places", many)
	halves := &api.Re{Kind: api.RSet}
	for p := 0xD800; p < 0xDFFF; p += 2 {
		halves.Set = append(halves.Set, api.Range{Lo: p, Hi: p})
	}
	checkBack(t, "halves of pairs", halves)
	for _, p := range []*api.Re{apart(20000), apart(250000), cat(times(apart(2000), 59)...), cat(times(apart(250000), 59)...), rep(apart(20000), 0, -1)} {
		if text, err := pattern.Write(p); text != "" || err != api.ErrBound {
			t.Errorf("%d bytes, %v", len(text), err)
		}
	}
}

// P23: the text may have MaxText bytes, and no more. Each range takes as many bytes as the others, and each letter one.
func TestWriteAroundMaxText(t *testing.T) {
	size := func(count int) int { return len(checkBack(t, "many ranges", apart(count))) }
	each := size(2001) - size(2000)
	count := 2000 + (api.MaxText-size(2000)-2)/each
	room := api.MaxText - size(count)
	if text := checkBack(t, "MaxText", cat(append(times(one('a'), room), apart(count))...)); len(text) != api.MaxText {
		t.Errorf("%d bytes", len(text))
	}
	if text, err := pattern.Write(cat(append(times(one('a'), room+1), apart(count))...)); text != "" || err != api.ErrBound {
		t.Errorf("one byte more: %d bytes, %v", len(text), err)
	}
}

// P23, P1: ErrSyntax for what is not valid.
func TestWriteOfWhatIsNotValid(t *testing.T) {
	for name, p := range odd() {
		if text, err := pattern.Write(p); text != "" || err != api.ErrSyntax {
			t.Errorf("%s: %q, %v", name, text, err)
		}
	}
}
