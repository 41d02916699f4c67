package scan_test

import (
	"math"
	"slices"
	"testing"

	"grammarsmith/api"
	"grammarsmith/scan"
)

// P41: the longest text, and of the rules that stand for it the first.
func TestNextLongestAndFirst(t *testing.T) {
	for _, c := range []struct {
		rules    []string
		text     string
		at       int
		rule, to int
	}{
		{[]string{"if", "[a-z]+"}, "iffy if", 0, 1, 4},
		{[]string{"if", "[a-z]+"}, "iffy if", 4, -1, 5},
		{[]string{"if", "[a-z]+"}, "iffy if", 5, 0, 7},
		{[]string{"if", "[a-z]+"}, "iffy if", 2, 1, 4},
		{[]string{"[0-9]+", "[0-9]+[.][0-9]+"}, "12.5", 0, 1, 4},
		{[]string{"[0-9]+", "[0-9]+[.][0-9]+"}, "12.x", 0, 0, 2},
		{[]string{"[0-9]+", "[0-9]+[.][0-9]+"}, "12.", 0, 0, 2},
		{[]string{"a", "aaaa"}, "aaa", 0, 0, 1},
		{[]string{"a", "aaaa"}, "aaaaa", 0, 1, 4},
		{[]string{"aaaa"}, "aaa", 0, -1, 1},
		{[]string{"aa|b", "a|bb", "ab|b?c"}, "ab", 0, 2, 2},
		{[]string{"aa|b", "a|bb", "ab|b?c"}, "bb", 0, 1, 2},
		{[]string{"[ab]", "[bc]"}, "b", 0, 0, 1},
		{[]string{"[ab]", "[bc]"}, "c", 0, 1, 1},
		{[]string{"[bc]", "[ab]"}, "b", 0, 0, 1},
		{[]string{"[0-9]+&~(0.+)", "0+"}, "007", 0, 1, 2},
		{[]string{"~()&~(.*b.*)"}, "aab", 0, 0, 2},
		{[]string{`/\*~([^]*\*/[^]*)\*/`, "/"}, "/* a */ */", 0, 0, 7},
		{[]string{`/\*~([^]*\*/[^]*)\*/`, "/"}, "/* a * /", 0, 1, 1},
		{[]string{"€+"}, "x€€y", 1, 0, 7},
		{[]string{`a\u{D800}|b`}, "ab", 0, -1, 1},
	} {
		tok, modes := plainScanner(t, c.rules...).Next(c.text, c.at, nil)
		if tok.Rule != c.rule || tok.From != c.at || tok.To != c.to || !slices.Equal(modes, []int{0}) {
			t.Errorf("%q on %q at %d: %+v, %v, want rule %d to %d", c.rules, c.text, c.at, tok, modes, c.rule, c.to)
		}
	}
}

// modeRules are rules with which modes begin and end.
func modeRules(t *testing.T) []api.Rule {
	t.Helper()
	l := plainRules(t, "<", ">", "!", "a")
	l[0].Push = 1
	l[1].Pop = true
	l[2].Pop, l[2].Push = true, 2
	l = append(l, inMode(1, plainRules(t, "<", ">", "!", "b"))...)
	l[4].Push = 2
	l[5].Pop = true
	l[6].Pop, l[6].Push = true, 2
	l = append(l, inMode(2, plainRules(t, "<", ">", "c"))...)
	l[8].Push = 0
	l[9].Pop = true
	return l
}

// P41: the innermost mode's rules hold, and the modes behind the token are told.
func TestNextModes(t *testing.T) {
	x := newOf(t, modeRules(t))
	for _, c := range []struct {
		text  string
		modes []int
		rule  int
		want  []int
	}{
		{"a", nil, 3, []int{0}}, {"a", []int{}, 3, []int{0}}, {"a", []int{0}, 3, []int{0}},
		{"<", nil, 0, []int{0, 1}}, {"<", []int{0, 1}, 4, []int{0, 1, 2}}, {"<", []int{0, 1, 2}, 8, []int{0, 1, 2, 0}}, {"<", []int{2, 0}, 0, []int{2, 0, 1}},
		{">", []int{0, 1}, 5, []int{0}}, {">", []int{0, 1, 2}, 9, []int{0, 1}}, {">", []int{1, 0}, 1, []int{1}},
		{">", nil, 1, []int{0}}, {">", []int{0}, 1, []int{0}}, {">", []int{1}, 5, []int{1}}, {">", []int{2}, 9, []int{2}},
		{"!", nil, 2, []int{0, 2}}, {"!", []int{1}, 6, []int{1, 2}}, {"!", []int{0, 1}, 6, []int{0, 2}}, {"!", []int{0, 2, 0}, 2, []int{0, 2, 2}},
		{"b", nil, -1, []int{0}}, {"a", []int{0, 1}, -1, []int{0, 1}}, {"!", []int{0, 2}, -1, []int{0, 2}}, {"c", []int{0, 1, 2}, 10, []int{0, 1, 2}},
		{"a", []int{3}, -1, []int{3}}, {"a", []int{0, 15}, -1, []int{0, 15}}, {"<", []int{0, 16}, -1, []int{0, 16}}, {">", []int{0, -1}, -1, []int{0, -1}},
		{"a", []int{99, -7, 0}, 3, []int{99, -7, 0}}, {">", []int{99, 0}, 1, []int{99}}, {">", []int{math.MaxInt, math.MinInt}, -1, []int{math.MaxInt, math.MinInt}},
	} {
		tok, modes := x.Next(c.text, 0, c.modes)
		want := api.Token{Rule: c.rule, From: 0, To: 1, Line: 1, Col: 1}
		if tok != want || !slices.Equal(modes, c.want) {
			t.Errorf("%q in %v: %+v, %v, want rule %d, %v", c.text, c.modes, tok, modes, c.rule, c.want)
		}
	}
}

// P41: a mode without rules, and one that holds though mode 0 has none.
func TestNextWithoutRules(t *testing.T) {
	x := newOf(t, inMode(4, plainRules(t, "[^]+")))
	for _, c := range []struct {
		text string
		to   int
	}{{"ab", 1}, {"€b", 3}, {"\xe2\x82", 1}, {"😀", 4}, {"\n\n", 1}} {
		tok, modes := x.Next(c.text, 0, nil)
		if tok.Rule != -1 || tok.From != 0 || tok.To != c.to || !slices.Equal(modes, []int{0}) {
			t.Errorf("%q: %+v, %v", c.text, tok, modes)
		}
		tok, modes = x.Next(c.text, 0, []int{4})
		if tok.Rule != 0 || tok.To != len(c.text) || !slices.Equal(modes, []int{4}) {
			t.Errorf("%q in mode 4: %+v, %v", c.text, tok, modes)
		}
	}
}

// P41: the end of the text, and what is no place in it.
func TestNextAtTheEnd(t *testing.T) {
	all := plainRules(t, "[^]+")
	all[0].Push, all[0].Pop = 0, true
	for _, x := range []*scan.Scanner{newOf(t, all), newOf(t, nil)} {
		for _, c := range []struct {
			text      string
			line, col int
		}{{"", 1, 1}, {"abc", 1, 4}, {"ab\n", 2, 1}, {"\n\na€", 3, 3}, {"a\xff\xe2\x82", 1, 5}, {"\xff\n\xff", 2, 2}} {
			want := api.Token{Rule: -2, From: len(c.text), To: len(c.text), Line: c.line, Col: c.col}
			for _, at := range []int{len(c.text), len(c.text) + 1, len(c.text) + 100, math.MaxInt, -1, -100, math.MinInt} {
				if tok, modes := x.Next(c.text, at, []int{3, 0}); tok != want || !slices.Equal(modes, []int{3, 0}) {
					t.Errorf("%q at %d: %+v, %v, want %+v", c.text, at, tok, modes, want)
				}
				if tok, modes := x.Next(c.text, at, nil); tok != want || !slices.Equal(modes, []int{0}) {
					t.Errorf("%q at %d: %+v, %v, want %+v", c.text, at, tok, modes, want)
				}
			}
		}
	}
}

// P41: bytes that belong to no code point are the point FFFD each.
func TestNextOfLoneBytes(t *testing.T) {
	for _, c := range []struct {
		pattern, text string
		at, rule, to  int
	}{
		{"a", "\xffa", 0, -1, 1}, {"a", "\xe2\x82", 0, -1, 1}, {"a", "\xe2\x82", 1, -1, 2}, {"a", "a\xff", 1, -1, 2}, {"a+", "aa\xff", 0, 0, 2},
		{`\u{FFFD}`, "\xff\xff", 0, 0, 1}, {`\u{FFFD}+`, "\xff\xe2\x82x", 0, 0, 3}, {`\u{FFFD}+`, "\xff\uFFFD\xfea", 0, 0, 5}, {`\u{FFFD}+`, "\xed\xa0\x80a", 0, 0, 3},
		{`\u{FFFD}`, "\uFFFDa", 0, 0, 3}, {"[^]+", "\xff\xf0\x9f\x98", 0, 0, 4}, {".+", "a\xff\n", 0, 0, 2}, {`[^\u{FFFD}]+`, "ab\xff", 0, 0, 2}, {"ÿ", "\xff", 0, -1, 1},
		{`\u{FFFD}`, "\xff", 0, 0, 1}, {`a\u{FFFD}`, "a\xc3", 0, 0, 2},
	} {
		tok, _ := plainScanner(t, c.pattern).Next(c.text, c.at, nil)
		if tok.Rule != c.rule || tok.From != c.at || tok.To != c.to {
			t.Errorf("%q on %q at %d: %+v, want rule %d to %d", c.pattern, c.text, c.at, tok, c.rule, c.to)
		}
	}
}

// P41: within a code point its bytes from there on belong to none.
func TestNextWithinAPoint(t *testing.T) {
	for _, c := range []struct {
		pattern, text     string
		at, rule, to, col int
	}{
		{"[^]+", "€a", 1, 0, 4, 2}, {"[^]+", "€a", 2, 0, 4, 2}, {"[^]", "€a", 1, 0, 2, 2}, {"a", "€a", 1, -1, 2, 2}, {"a", "€a", 2, -1, 3, 2}, {"a", "€a", 3, 0, 4, 2},
		{`\u{FFFD}+`, "x😀y", 2, 0, 5, 3}, {`\u{FFFD}+`, "x😀y", 4, 0, 5, 3}, {"y", "x😀y", 5, 0, 6, 3}, {"é", "aéé", 2, -1, 3, 3},
	} {
		tok, _ := plainScanner(t, c.pattern).Next(c.text, c.at, nil)
		want := api.Token{Rule: c.rule, From: c.at, To: c.to, Line: 1, Col: c.col}
		if tok != want {
			t.Errorf("%q on %q at %d: %+v, want %+v", c.pattern, c.text, c.at, tok, want)
		}
	}
}

// P41: lines end behind a point 10, and columns count points.
func TestNextLineAndCol(t *testing.T) {
	x := plainScanner(t, "a")
	for _, c := range []struct {
		text          string
		at, line, col int
	}{
		{"a", 0, 1, 1}, {"ab", 1, 1, 2}, {"a\nb", 1, 1, 2}, {"a\nb", 2, 2, 1}, {"a\nbc", 3, 2, 2}, {"\n", 0, 1, 1}, {"\n\n\n", 2, 3, 1}, {"\n\n\nx", 3, 4, 1},
		{"a\r\nb", 2, 1, 3}, {"a\r\nb", 3, 2, 1}, {"a\rb", 2, 1, 3}, {"a\u2028b", 4, 1, 3}, {"a\u0085b", 3, 1, 3}, {"a\vb\fc", 4, 1, 5}, {"a\tb", 2, 1, 3},
		{"éa", 2, 1, 2}, {"€€a", 6, 1, 3}, {"😀\n😀a", 9, 2, 2}, {"e\u0301a", 3, 1, 3}, {"\uFEFFa", 3, 1, 2}, {"\x00a", 1, 1, 2},
		{"\xffa", 1, 1, 2}, {"\xff\xfea", 2, 1, 3}, {"\xe2\x82a", 2, 1, 3}, {"\xff\na", 2, 2, 1}, {"\n\xff\xffa", 3, 2, 3}, {"\xe2\na", 1, 1, 2}, {"\xe2\na", 2, 2, 1}, {"\xf0\x9f\x98a", 3, 1, 4},
		{"\xed\xa0\x80a", 3, 1, 4}, {"€\n€", 2, 1, 2}, {"€\n€", 3, 1, 2}, {"€\n€", 4, 2, 1}, {"€\n€", 5, 2, 2},
	} {
		tok, _ := x.Next(c.text, c.at, nil)
		if tok.Line != c.line || tok.Col != c.col || tok.From != c.at {
			t.Errorf("%q at %d: %+v, want line %d, column %d", c.text, c.at, tok, c.line, c.col)
		}
	}
}
