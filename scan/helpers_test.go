package scan_test

import (
	"errors"
	"slices"
	"testing"

	"grammarsmith/api"
	"grammarsmith/auto"
	"grammarsmith/pattern"
	"grammarsmith/scan"
)

func read(t *testing.T, s string) *api.Re {
	t.Helper()
	p, err := pattern.Read(s)
	if err != nil {
		t.Fatalf("Read(%q): %v", s, err)
	}
	return p
}

// plainRules are rules of mode 0 that do nothing but take.
func plainRules(t *testing.T, l ...string) []api.Rule {
	t.Helper()
	var out []api.Rule
	for _, s := range l {
		out = append(out, api.Rule{Name: s, Re: read(t, s), Push: -1})
	}
	return out
}

// inMode puts rules into a mode.
func inMode(mode int, l []api.Rule) []api.Rule {
	for i := range l {
		l[i].Mode = mode
	}
	return l
}

func newOf(t *testing.T, l []api.Rule) *scan.Scanner {
	t.Helper()
	x, err := scan.New(l)
	if err != nil || x == nil {
		t.Fatalf("New: %v", err)
	}
	return x
}

func plainScanner(t *testing.T, l ...string) *scan.Scanner {
	t.Helper()
	return newOf(t, plainRules(t, l...))
}

// checkFault asks for an error that is a fault with its place, beside no scanner.
func checkFault(t *testing.T, name string, l []api.Rule, want error, at int) {
	t.Helper()
	x, err := scan.New(l)
	var fault *api.Fault
	if !errors.As(err, &fault) || err != error(fault) || fault.Err != want || fault.At != at || x != nil {
		where := -1
		if fault != nil {
			where = fault.At
		}
		t.Errorf("%s: %v at %d (%T), scanner %v; want %v at %d", name, err, where, err, x != nil, want, at)
	}
}

// manyStates are rules whose automaton has 497 states.
func manyStates() []string {
	return []string{"[ab]*a[ab]{7}", "y[ab]*a[ab]{6}", "z[ab]*a[ab]{5}", "u[ab]*a[ab]{4}", "v[ab]*a[ab]{3}"}
}

// huge has more than MaxStates states alone.
const huge = "[ab]*a[ab]{8}"

// wrongPatterns are patterns that are not valid.
func wrongPatterns() map[string]*api.Re {
	a := &api.Re{Kind: api.RSet, Set: []api.Range{{Lo: 'a', Hi: 'a'}}}
	deep := a
	for range api.MaxNest + 1 {
		deep = &api.Re{Kind: api.RNot, Kids: []*api.Re{deep}}
	}
	return map[string]*api.Re{
		"nil":                 nil,
		"no kind":             {},
		"another kind":        {Kind: 7},
		"a set not canonical": {Kind: api.RSet, Set: []api.Range{{Lo: 5, Hi: 9}, {Lo: 0, Hi: 4}}},
		"a set above all":     {Kind: api.RSet, Set: []api.Range{{Lo: 0, Hi: api.MaxPoint + 1}}},
		"a row of one":        {Kind: api.RCat, Kids: []*api.Re{a}},
		"an or of none":       {Kind: api.ROr},
		"a nil kid":           {Kind: api.RCat, Kids: []*api.Re{a, nil}},
		"times backwards":     {Kind: api.RRep, Min: 3, Max: 2, Kids: []*api.Re{a}},
		"too heavy":           {Kind: api.RRep, Min: 50, Max: 50, Kids: []*api.Re{{Kind: api.RCat, Kids: []*api.Re{a, a}}}},
		"too deep":            deep,
	}
}

// dice gives the same numbers each time.
type dice struct{ seed uint32 }

func (d *dice) next(n int) int {
	d.seed = d.seed*1664525 + 1013904223
	return int(d.seed>>8) % n
}

// one gives one of a list.
func one[T any](d *dice, l []T) T {
	return l[d.next(len(l))]
}

// text is of up to so many pieces: code points of one to four bytes, ends of lines, bytes that belong to no code point.
func (d *dice) text(most int) string {
	pieces := []string{"a", "a", "b", "b", "c", "\n", "é", "€", "😀", "\uFFFD", "\xff", "\xe2", "\xe2\x82", "\xf0\x9f", "\x82", "\x00", "\r"}
	s := ""
	for range d.next(most + 1) {
		s += one(d, pieces)
	}
	return s
}

// rules are some rules; in most lists none is wrong, or only the last ones are.
func (d *dice) rules(t *testing.T, patterns map[string]*api.Re, names []string) []api.Rule {
	t.Helper()
	var out []api.Rule
	modes := []int{0, 0, 0, 1, 1, 2, api.MaxModes - 1}
	for range 1 + d.next(7) {
		r := api.Rule{Re: patterns[one(d, names)], Mode: one(d, modes), Skip: d.next(4) == 0, Pop: d.next(3) == 0, Push: -1}
		if d.next(3) == 0 {
			r.Push = one(d, modes)
		}
		switch d.next(60) {
		case 0:
			r.Mode = one(d, []int{-1, api.MaxModes, 99})
		case 1:
			r.Push = one(d, []int{-2, api.MaxModes, 99, 7})
		case 2:
			r.Re = nil
		}
		out = append(out, r)
	}
	return out
}

// smallPatterns are patterns for lists of rules.
func smallPatterns(t *testing.T) (map[string]*api.Re, []string) {
	t.Helper()
	names := []string{
		"a", "b", "ab", "aab", "a+", "[ab]+", "(ab)+", "a*b", "a+c", "(a|b){3}", "[abc]", "c", ".", "[^]", "[^]+", `\n`, `[\n ]+`, "é", "€+", "[é€]", `\u{FFFD}`, `\u{FFFD}+a`,
		`[^\u{FFFD}]+`, "[^a]+", "~()&~(.*a.*)", "a[^]*b", `a\u{D800}`, `[\u{D800}-\u{DFFF}]`, "😀?a", "a*", "[]", "", "(a|ab)(c|bcd)?", `[a-c\n]+&~([^]*\n\n[^]*)`,
	}
	out := map[string]*api.Re{}
	for _, s := range names {
		out[s] = read(t, s)
	}
	return out, names
}

// model answers by the words of the chapter, rule by rule.
type model struct {
	rules []api.Rule
	autos []api.Auto // of each rule alone
}

// newModel gives the error of New and its place, or a model.
func newModel(l []api.Rule) (*model, error, int) {
	if len(l) > api.MaxRules {
		return nil, api.ErrBound, api.MaxRules
	}
	m := &model{rules: l}
	for i, r := range l {
		a, err := auto.Of(r.Re)
		if err != nil {
			return nil, err, i
		}
		pushes := slices.ContainsFunc(l, func(o api.Rule) bool { return o.Mode == r.Push })
		if r.Mode < 0 || r.Mode >= api.MaxModes || r.Push != -1 && !pushes || pattern.Matches(r.Re, "") {
			return nil, api.ErrRule, i
		}
		ahead := []*api.Re{}
		own := []*api.Re{r.Re, r.Re}
		for _, o := range l[:i] {
			if o.Mode == r.Mode {
				ahead = append(ahead, o.Re)
				own = append(own, &api.Re{Kind: api.RNot, Kids: []*api.Re{o.Re}})
			}
		}
		if _, err := auto.Rules(append(ahead, r.Re)); err != nil {
			return nil, api.ErrBound, i
		}
		left, err := auto.Of(&api.Re{Kind: api.RAnd, Kids: own})
		if err != nil {
			panic("the patterns are too heavy for the model")
		}
		if len(left.States) == 0 {
			return nil, api.ErrRule, i
		}
		m.autos = append(m.autos, a)
	}
	return m, nil, -1
}

// look answers what Look is to answer.
func (m *model) look(s string, at int, modes []int) (api.Token, []int, int) {
	held := append([]int{}, modes...)
	if len(held) == 0 {
		held = []int{0}
	}
	if at < 0 || at >= len(s) {
		line, col := placeOf(s, len(s))
		return api.Token{Rule: -2, From: len(s), To: len(s), Line: line, Col: col}, held, len(s) + 1
	}
	line, col := placeOf(s, at)
	ends, lone := endsOf(s, at)
	mode := held[len(held)-1]
	tok := api.Token{Rule: -1, From: at, To: ends[0], Line: line, Col: col}
	for _, end := range ends {
		for i, r := range m.rules {
			if r.Mode == mode && pattern.Matches(r.Re, s[at:end]) {
				tok.Rule, tok.To = i, end
				break
			}
		}
	}
	if tok.Rule >= 0 {
		r := m.rules[tok.Rule]
		if r.Pop && len(held) > 1 {
			held = held[:len(held)-1]
		}
		if r.Push != -1 {
			held = append(held, r.Push)
		}
	}
	return tok, held, m.looked(s, at, mode, ends, lone)
}

func (m *model) looked(s string, at, mode int, ends []int, lone []bool) int {
	for k, end := range ends {
		begun := false
		for i, r := range m.rules {
			begun = begun || r.Mode == mode && beginsOne(m.autos[i], s[at:end])
		}
		if !begun && lone[k] {
			return min(end+3, len(s)+1)
		}
		if !begun {
			return end
		}
	}
	return len(s) + 1
}

// scan answers what Scan is to answer.
func (m *model) scan(s string) []api.Token {
	var out []api.Token
	var modes []int
	for at := 0; at < len(s); {
		var tok api.Token
		tok, modes, _ = m.look(s, at, modes)
		if tok.Rule < 0 || !m.rules[tok.Rule].Skip {
			out = append(out, tok)
		}
		at = tok.To
	}
	return out
}

// beginsOne says whether a text begins one that a least automaton takes: from each of its states something is taken.
func beginsOne(a api.Auto, s string) bool {
	if len(a.States) == 0 {
		return false
	}
	at := 0
	for _, p := range s {
		to := -1
		for _, m := range a.States[at].Moves {
			if m.Lo <= int(p) && int(p) <= m.Hi {
				to = m.To
			}
		}
		if to < 0 {
			return false
		}
		at = to
	}
	return true
}

// placeOf gives the line and the column of a byte.
func placeOf(s string, at int) (line, col int) {
	line, begin := 1, 0
	for i, p := range s {
		if i < at && p == 10 {
			line, begin = line+1, i+1
		}
	}
	col = 1
	for i := range s {
		if i >= begin && i < at {
			col++
		}
	}
	return line, col
}

// endsOf gives where the points from a byte on end, and which of them are bytes that belong to no code point.
func endsOf(s string, at int) (ends []int, lone []bool) {
	rest := s[at:]
	for i, p := range rest {
		size := len(string(p))
		alone := p == 0xFFFD && (len(rest) < i+3 || rest[i:i+3] != "\uFFFD")
		if alone {
			size = 1
		}
		ends, lone = append(ends, at+i+size), append(lone, alone)
	}
	return ends, lone
}
