package pattern_test

import (
	"strings"
	"testing"

	"grammarsmith/api"
	"grammarsmith/pattern"
)

// P21: what each form of the text tells.
func TestRead(t *testing.T) {
	a, b, c := one('a'), one('b'), one('c')
	for _, x := range []struct {
		text string
		want *api.Re
	}{
		{"", cat()},
		{"a", a},
		{"ab", cat(a, b)},
		{"abc", cat(a, b, c)},
		{"a|b", or(a, b)},
		{"a|b|c", or(a, b, c)},
		{"a&b", and(a, b)},
		{"a&b&c", and(a, b, c)},
		{"a|b&c", or(a, and(b, c))},
		{"a&b|c", or(and(a, b), c)},
		{"ab&c|a", or(and(cat(a, b), c), a)},
		{"|", or(cat(), cat())},
		{"&", and(cat(), cat())},
		{"a|", or(a, cat())},
		{"|a", or(cat(), a)},
		{"a||b", or(a, cat(), b)},
		{"a&|b", or(and(a, cat()), b)},
		{"()", cat()},
		{"(a)", a},
		{"((a))", a},
		{"(ab)", cat(a, b)},
		{"(ab)c", cat(cat(a, b), c)},
		{"a(bc)", cat(a, cat(b, c))},
		{"a()", cat(a, cat())},
		{"()()", cat(cat(), cat())},
		{"(a|b)|c", or(or(a, b), c)},
		{"a|(b|c)", or(a, or(b, c))},
		{"(a&b)&c", and(and(a, b), c)},
		{"(a|b)c", cat(or(a, b), c)},
		{"(|)", or(cat(), cat())},
		{"a*", rep(a, 0, -1)},
		{"a+", rep(a, 1, -1)},
		{"a?", rep(a, 0, 1)},
		{"a{3}", rep(a, 3, 3)},
		{"a{1}", rep(a, 1, 1)},
		{"a{3,}", rep(a, 3, -1)},
		{"a{0,}", rep(a, 0, -1)},
		{"a{0,1}", rep(a, 0, 1)},
		{"a{2,5}", rep(a, 2, 5)},
		{"a{10,20}", rep(a, 10, 20)},
		{"a{3,3}", rep(a, 3, 3)},
		{"a{50}", rep(a, 50, 50)},
		{"a{50,}", rep(a, 50, -1)},
		{"a{0,50}", rep(a, 0, 50)},
		{"a*+?", rep(rep(rep(a, 0, -1), 1, -1), 0, 1)},
		{"a{2}{3}", rep(rep(a, 2, 2), 3, 3)},
		{"ab*", cat(a, rep(b, 0, -1))},
		{"(ab)*", rep(cat(a, b), 0, -1)},
		{"()*", rep(cat(), 0, -1)},
		{"a|b*", or(a, rep(b, 0, -1))},
		{"~a", not(a)},
		{"~~a", not(not(a))},
		{"~a*", rep(not(a), 0, -1)},
		{"~(a*)", not(rep(a, 0, -1))},
		{"~ab", cat(not(a), b)},
		{"~(ab)", not(cat(a, b))},
		{"~()", not(cat())},
		{"~a{2,3}", rep(not(a), 2, 3)},
		{"~[a]", not(a)},
		{"~.", not(dot())},
		{"a~b", cat(a, not(b))},
		{".", dot()},
		{"-", one('-')},
		{"^", one('^')},
		{"a-b", cat(a, one('-'), b)},
		{",", one(',')},
		{"1{2}", rep(one('1'), 2, 2)},
		{"`\"' #", cat(one('`'), one('"'), one('\''), one(' '), one('#'))},
		{"\n", one('\n')},
		{"\x00", one(0)},
		{"é€𝄞", cat(one(0xE9), one(0x20AC), one(0x1D11E))},
		{"\uFFFD", one(0xFFFD)},
		{"é*", rep(one(0xE9), 0, -1)},
		{"u{2}", rep(one('u'), 2, 2)},
	} {
		if got := mustRead(t, x.text); !same(got, x.want) || !pattern.Ok(got) {
			t.Errorf("Read(%q): %+v", x.text, got)
		}
	}
}

// P21: sets between brackets.
func TestReadSets(t *testing.T) {
	const last = api.MaxPoint
	for _, x := range []struct {
		text string
		want set
	}{
		{"[]", nil},
		{"[^]", set{{Lo: 0, Hi: last}}},
		{"[a]", set{{Lo: 'a', Hi: 'a'}}},
		{"[^a]", set{{Lo: 0, Hi: 'a' - 1}, {Lo: 'a' + 1, Hi: last}}},
		{"[a-a]", set{{Lo: 'a', Hi: 'a'}}},
		{"[a-c]", set{{Lo: 'a', Hi: 'c'}}},
		{"[abc]", set{{Lo: 'a', Hi: 'c'}}},
		{"[cba]", set{{Lo: 'a', Hi: 'c'}}},
		{"[aa]", set{{Lo: 'a', Hi: 'a'}}},
		{"[0-9a-f]", set{{Lo: '0', Hi: '9'}, {Lo: 'a', Hi: 'f'}}},
		{"[a-f0-9]", set{{Lo: '0', Hi: '9'}, {Lo: 'a', Hi: 'f'}}},
		{"[a-mg-z]", set{{Lo: 'a', Hi: 'z'}}},
		{"[^a-z]", set{{Lo: 0, Hi: 'a' - 1}, {Lo: 'z' + 1, Hi: last}}},
		{"[.]", set{{Lo: '.', Hi: '.'}}},
		{"[(-+]", set{{Lo: '(', Hi: '+'}}},
		{"[|&*+?{}~().]", set{{Lo: '&', Hi: '&'}, {Lo: '(', Hi: '+'}, {Lo: '.', Hi: '.'}, {Lo: '?', Hi: '?'}, {Lo: '{', Hi: '~'}}},
		{`[\[-\]]`, set{{Lo: '[', Hi: ']'}}},
		{`[\-]`, set{{Lo: '-', Hi: '-'}}},
		{`[\^]`, set{{Lo: '^', Hi: '^'}}},
		{`[^\^]`, set{{Lo: 0, Hi: '^' - 1}, {Lo: '^' + 1, Hi: last}}},
		{`[\t-\r]`, set{{Lo: 9, Hi: 13}}},
		{`[\u{61}-\u{7A}]`, set{{Lo: 'a', Hi: 'z'}}},
		{`[\u{0}-\u{10FFFF}]`, set{{Lo: 0, Hi: last}}},
		{`[^\u{0}-\u{10FFFF}]`, nil},
		{`[\u{D800}-\u{DFFF}]`, set{{Lo: 0xD800, Hi: 0xDFFF}}},
		{"[à-ÿ€]", set{{Lo: 0xE0, Hi: 0xFF}, {Lo: 0x20AC, Hi: 0x20AC}}},
	} {
		if got := mustRead(t, x.text); !same(got, setOf(x.want...)) {
			t.Errorf("Read(%q): %+v", x.text, got)
		}
	}
}

// P21: escapes, outside of brackets and within.
func TestReadEscapes(t *testing.T) {
	wants := map[string]int{
		`\n`: 10, `\r`: 13, `\t`: 9, `\u{0}`: 0, `\u{a}`: 10, `\u{A}`: 10, `\u{61}`: 'a', `\u{000061}`: 'a', `\u{1d11e}`: 0x1D11E, `\u{1D11e}`: 0x1D11E,
		`\u{10FFFF}`: api.MaxPoint, `\u{10ffff}`: api.MaxPoint, `\u{D800}`: 0xD800, `\u{dfff}`: 0xDFFF, `\u{00000}`: 0,
	}
	for _, c := range `|&*+?{}~()[].\-^"' ` {
		wants[`\`+string(c)] = int(c)
	}
	for text, want := range wants {
		for _, s := range []string{text, "[" + text + "]", "(" + text + ")", "[" + text + "-" + text + "]"} {
			if got := mustRead(t, s); !same(got, one(want)) {
				t.Errorf("Read(%q): %+v, want %x", s, got, want)
			}
		}
	}
}

// P21: each code point stands for itself, but for those that have a meaning.
func TestReadEachSign(t *testing.T) {
	for p := range 0x300 {
		if strings.ContainsRune(`|&*+?{}~()[].\`, rune(p)) {
			continue
		}
		if got := mustRead(t, "a"+string(rune(p))); !same(got, cat(one('a'), one(p))) {
			t.Errorf("outside: %q", rune(p))
		}
	}
	for p := range 0x300 {
		if strings.ContainsRune(`[]-^\`, rune(p)) {
			continue
		}
		if got := mustRead(t, "["+string(rune(p))+"]"); !same(got, one(p)) {
			t.Errorf("within: %q", rune(p))
		}
	}
}

// P21, P22: a text may have MaxText bytes, and MaxOpen brackets in one another.
func TestReadAtTheBounds(t *testing.T) {
	text := "[" + strings.Repeat("a", api.MaxText-2) + "]"
	if got := mustRead(t, text); !same(got, one('a')) {
		t.Errorf("%d bytes: %+v", len(text), got)
	}
	open, closed := strings.Repeat("(", api.MaxOpen), strings.Repeat(")", api.MaxOpen)
	for _, s := range []string{open + "a" + closed, "(" + open[1:] + "a" + closed + "a*", open + closed, open[1:] + "[a]" + closed[1:]} {
		mustRead(t, s)
	}
	for _, s := range []string{strings.Repeat("((((a))))", 50), strings.Repeat("[a]", 50), strings.Repeat("~a", 25)} {
		mustRead(t, s+open+"a"+closed)
	}
	if got := mustRead(t, strings.Repeat("~", api.MaxNest)+"a"); !same(got, nots(one('a'), api.MaxNest)) {
		t.Errorf("nested %d: %+v", api.MaxNest, got)
	}
	if got := mustRead(t, strings.Repeat("a", api.MaxWeight-1)); len(got.Kids) != api.MaxWeight-1 {
		t.Errorf("weight %d: %+v", api.MaxWeight, got)
	}
}

// P4: no two lists of an answer share memory, and a later answer is as the first one was.
func TestReadAnswersNewMemory(t *testing.T) {
	const text = `(.|.)[^]a*a*[a-z]{2,3}&~()|\n.`
	kept := copyOf(mustRead(t, text))
	scribble(mustRead(t, text))
	if got := mustRead(t, text); !same(got, kept) {
		t.Errorf("the second answer is not the first: %+v", got)
	}
	p := mustRead(t, text)
	checkApart(t, p, map[*api.Re]bool{}, map[*api.Range]bool{})
}

func scribble(p *api.Re) {
	for i := range p.Set[:cap(p.Set)] {
		p.Set[:cap(p.Set)][i] = api.Range{Lo: -7, Hi: -7}
	}
	for _, k := range p.Kids {
		scribble(k)
	}
	p.Kids = append(p.Kids[:0], nil)
	p.Kind = 0
}

func checkApart(t *testing.T, p *api.Re, met map[*api.Re]bool, sets map[*api.Range]bool) {
	t.Helper()
	if met[p] {
		t.Errorf("one pattern stands in two places: %+v", p)
	}
	met[p] = true
	for i := range p.Set {
		if sets[&p.Set[i]] {
			t.Errorf("one range stands in two sets: %+v", p)
		}
		sets[&p.Set[i]] = true
	}
	for _, k := range p.Kids {
		checkApart(t, k, met, sets)
	}
}
