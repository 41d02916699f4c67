package pattern

import (
	"strconv"
	"strings"
	"unicode/utf8"

	"grammarsmith/api"
	"grammarsmith/points"
)

// The signs that have a meaning: a point that is one of them stands behind a stroke.
const (
	outerSigns = `|&*+?{}~()[].\`
	innerSigns = `[]-^\`
)

// What stands where no code point does.
const (
	atEnd  = -1
	broken = -2
)

// reader goes through a pattern's text. What is wrong is thrown, as a *api.Fault.
type reader struct {
	text  string
	at    int
	open  int // how many ( and ~ what stands at this place lies in
	signs map[rune]int
}

// escapes gives the points that the signs behind a stroke stand for.
func escapes() map[rune]int {
	signs := map[rune]int{'n': '\n', 'r': '\r', 't': '\t'}
	for _, c := range outerSigns + `-^"' ` {
		signs[c] = int(c)
	}
	return signs
}

func readWhole(s string) *api.Re {
	if len(s) > api.MaxText {
		throw(api.ErrBound, api.MaxText)
	}
	r := &reader{text: s, signs: escapes()}
	p := r.pattern()
	r.want(atEnd)
	if !Ok(p) {
		throw(api.ErrBound, 0)
	}
	return p
}

func throw(err error, at int) {
	panic(&api.Fault{Err: err, At: at})
}

// next looks at the code point that comes, and how many bytes it has.
func (r *reader) next() (rune, int) {
	if r.at == len(r.text) {
		return atEnd, 0
	}
	c, size := utf8.DecodeRuneInString(r.text[r.at:])
	if c == utf8.RuneError && size == 1 {
		return broken, size
	}
	return c, size
}

// take goes behind a sign, if it comes.
func (r *reader) take(sign rune) bool {
	c, size := r.next()
	if c != sign {
		return false
	}
	r.at += size
	return true
}

func (r *reader) want(sign rune) {
	if !r.take(sign) {
		throw(api.ErrSyntax, r.at)
	}
}

func (r *reader) pattern() *api.Re {
	return r.several(api.ROr, '|', r.both)
}

func (r *reader) both() *api.Re {
	return r.several(api.RAnd, '&', r.row)
}

// several reads what has a sign between each two; one alone is what it is.
func (r *reader) several(kind int, sign rune, read func() *api.Re) *api.Re {
	kids := []*api.Re{read()}
	for r.take(sign) {
		kids = append(kids, read())
	}
	return gather(kind, kids)
}

func (r *reader) row() *api.Re {
	var parts []*api.Re
	for !r.rowEnds() {
		parts = append(parts, r.part())
	}
	return gather(api.RCat, parts)
}

func (r *reader) rowEnds() bool {
	switch c, _ := r.next(); c {
	case '|', '&', ')', atEnd:
		return true
	}
	return false
}

func gather(kind int, kids []*api.Re) *api.Re {
	if len(kids) == 1 {
		return kids[0]
	}
	return &api.Re{Kind: kind, Kids: kids}
}

func (r *reader) part() *api.Re {
	p := r.unit()
	for {
		least, most := 0, -1
		switch {
		case r.take('*'):
		case r.take('+'):
			least = 1
		case r.take('?'):
			most = 1
		case r.take('{'):
			least, most = r.times()
		default:
			return p
		}
		p = &api.Re{Kind: api.RRep, Min: least, Max: most, Kids: []*api.Re{p}}
	}
}

// times reads what stands behind a {, and the }.
func (r *reader) times() (least, most int) {
	from := r.at
	least = r.count()
	if !r.take(',') {
		// Until the } is there, a 0 may still be a lower count.
		r.want('}')
		if least == 0 {
			throw(api.ErrSyntax, from)
		}
		return least, least
	}
	if r.take('}') {
		return least, -1
	}
	from = r.at
	most = r.count()
	if most < max(least, 1) {
		throw(api.ErrSyntax, from)
	}
	r.want('}')
	return least, most
}

func (r *reader) count() int {
	from := r.at
	for r.at < len(r.text) && r.text[r.at] >= '0' && r.text[r.at] <= '9' {
		r.at++
	}
	digits := r.text[from:r.at]
	if digits == "" || len(digits) > 1 && digits[0] == '0' {
		throw(api.ErrSyntax, from)
	}
	n, err := strconv.Atoi(digits)
	if err != nil || n > api.MaxTimes {
		throw(api.ErrBound, from)
	}
	return n
}

func (r *reader) unit() *api.Re {
	switch c, _ := r.next(); c {
	case '~':
		r.enter()
		kid := r.unit()
		r.open--
		return &api.Re{Kind: api.RNot, Kids: []*api.Re{kid}}
	case '(':
		r.enter()
		p := r.pattern()
		r.want(')')
		r.open--
		return p
	case '[':
		r.enter()
		set := r.items()
		r.open--
		return setOf(set)
	case '.':
		r.at++
		return setOf(anyButNewline())
	}
	p := r.point(outerSigns)
	return setOf([]api.Range{{Lo: p, Hi: p}})
}

func setOf(set []api.Range) *api.Re {
	return &api.Re{Kind: api.RSet, Set: set}
}

func anyButNewline() []api.Range {
	return points.Other([]api.Range{{Lo: '\n', Hi: '\n'}})
}

// enter goes behind a sign that opens something. A [ counts as the others do: within it nothing opens.
func (r *reader) enter() {
	if r.open == api.MaxOpen {
		throw(api.ErrBound, r.at)
	}
	r.open++
	r.at++
}

// items reads what stands behind a [, and the ].
func (r *reader) items() []api.Range {
	others := r.take('^')
	var set []api.Range
	for !r.take(']') {
		set = append(set, r.item())
	}
	if others {
		return points.Other(set)
	}
	return points.Canon(set)
}

func (r *reader) item() api.Range {
	from := r.at
	lo := r.point(innerSigns)
	if !r.take('-') {
		return api.Range{Lo: lo, Hi: lo}
	}
	hi := r.point(innerSigns)
	if hi < lo {
		throw(api.ErrSyntax, from)
	}
	return api.Range{Lo: lo, Hi: hi}
}

// point reads a point where some signs have a meaning.
func (r *reader) point(signs string) int {
	if r.take('\\') {
		return r.escape()
	}
	c, size := r.next()
	if c < 0 || strings.ContainsRune(signs, c) {
		throw(api.ErrSyntax, r.at)
	}
	r.at += size
	return int(c)
}

// escape reads what stands behind a stroke.
func (r *reader) escape() int {
	stroke := r.at - 1
	c, size := r.next()
	if c == broken {
		throw(api.ErrSyntax, r.at)
	}
	r.at += size
	if p, known := r.signs[c]; known {
		return p
	}
	if c != 'u' || !r.take('{') {
		throw(api.ErrSyntax, stroke)
	}
	digits, _, closed := strings.Cut(r.text[r.at:], "}")
	p, err := strconv.ParseUint(digits, 16, 64)
	if !closed || len(digits) > 6 || err != nil || p > api.MaxPoint {
		throw(api.ErrSyntax, stroke)
	}
	r.at += len(digits) + 1
	return int(p)
}
