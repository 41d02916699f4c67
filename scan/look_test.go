package scan_test

import (
	"math"
	"slices"
	"testing"
)

// P43: up to which byte it had to look.
func TestLook(t *testing.T) {
	for _, c := range []struct {
		rules        []string
		text         string
		at, rule, to int
	}{
		{[]string{"if", "[a-z]+"}, "iffy if", 0, 1, 5},
		{[]string{"if", "[a-z]+"}, "iffy if", 4, -1, 5},
		{[]string{"if", "[a-z]+"}, "iffy if", 5, 0, 8},
		{[]string{"a"}, "a", 0, 0, 2},
		{[]string{"a"}, "aa", 0, 0, 2},
		{[]string{"a"}, "ab", 0, 0, 2},
		{[]string{"a"}, "b", 0, -1, 1},
		{[]string{"a"}, "bb", 1, -1, 2},
		{[]string{"a", "aaab"}, "aaac", 0, 0, 4},
		{[]string{"a", "aaab"}, "aaa", 0, 0, 4},
		{[]string{"a", "aaab"}, "aac", 0, 0, 3},
		{[]string{"a", "a*b"}, "aaaaa", 1, 0, 6},
		{[]string{"aaab"}, "aac", 0, -1, 3},
		{[]string{"[^]*b"}, "aaa", 0, -1, 4},
		{[]string{"[0-9]+", "[0-9]+[.][0-9]+"}, "12.x", 0, 0, 4},
		{[]string{"[0-9]+", "[0-9]+[.][0-9]+"}, "12x", 0, 0, 3},
		{[]string{"€+"}, "€€é", 0, 0, 8},
		{[]string{"€+"}, "€😀.", 0, 0, 7},
		{[]string{"a"}, "a€", 0, 0, 4},
		{[]string{"~()&~(.*b.*)"}, "aab", 0, 0, 4},
		{[]string{"[ab]+&~(.*b.*)"}, "aab", 0, 0, 3},
		{[]string{`a\u{D800}|b`}, "ab", 0, -1, 2},
		{[]string{`a\u{D800}|b`}, "a", 0, -1, 2},
	} {
		tok, modes, to := plainScanner(t, c.rules...).Look(c.text, c.at, nil)
		if tok.Rule != c.rule || to != c.to || !slices.Equal(modes, []int{0}) {
			t.Errorf("%q on %q at %d: %+v, %v, looked to %d, want rule %d, %d", c.rules, c.text, c.at, tok, modes, to, c.rule, c.to)
		}
	}
}

// P43: a byte that belongs to no code point might become part of one.
func TestLookAtLoneBytes(t *testing.T) {
	for _, c := range []struct {
		pattern, text string
		at, to        int
	}{
		{"a", "a\xff", 0, 3}, {"a", "a\xffb", 0, 4}, {"a", "a\xffbc", 0, 5}, {"a", "a\xffbcd", 0, 5}, {"a", "a\xffbcdefg", 0, 5}, {"a", "\xff", 0, 2}, {"a", "\xffbcdefg", 0, 4},
		{"a", "a\xe2\x82", 0, 4}, {"a", "a\xe2\x82bcdef", 0, 5}, {"a", "a\xe2\x82bcdef", 2, 6}, {"a", "x\xf0\x9f\x98", 1, 5}, {"a", "x\xf0\x9f\x98", 3, 5},
		{"a", "a\uFFFDbcdefg", 0, 4}, {"a", "a\uFFFD", 0, 4}, {"a", "\uFFFDbcdefg", 0, 3},
		{`\u{FFFD}`, "\xffb", 0, 2}, {`\u{FFFD}`, "\xff", 0, 2}, {`\u{FFFD}`, "\xff\xffbcdefg", 0, 5}, {`\u{FFFD}`, "\xff\xff", 0, 3}, {`\u{FFFD}+`, "\xff\xffbcdefg", 0, 3},
		{"[^]+", "\xff\xff", 0, 3}, {"aab", "aa\xff.....", 0, 6},
	} {
		if _, _, to := plainScanner(t, c.pattern).Look(c.text, c.at, nil); to != c.to {
			t.Errorf("%q on %q at %d: looked to %d, want %d", c.pattern, c.text, c.at, to, c.to)
		}
	}
}

// P43: within a code point its bytes belong to none.
func TestLookWithinAPoint(t *testing.T) {
	for _, c := range []struct {
		pattern, text string
		at, to        int
	}{{"a", "€.....", 1, 5}, {"a", "€", 1, 4}, {`\u{FFFD}+`, "€a", 1, 4}, {`\u{FFFD}+`, "€", 2, 4}, {`\u{FFFD}`, "😀.....", 1, 6}} {
		if _, _, to := plainScanner(t, c.pattern).Look(c.text, c.at, nil); to != c.to {
			t.Errorf("%q on %q at %d: looked to %d, want %d", c.pattern, c.text, c.at, to, c.to)
		}
	}
}

// P43: modes without rules.
func TestLookWithoutRules(t *testing.T) {
	x := plainScanner(t, "[^]+")
	for _, modes := range [][]int{{1}, {0, 15}, {16}, {0, -1}, {math.MaxInt}} {
		for _, c := range []struct {
			text   string
			at, to int
		}{{"ab", 0, 1}, {"ab", 1, 2}, {"€b", 0, 3}, {"😀", 0, 4}, {"\uFFFDb", 0, 3}, {"\xffbcdefg", 0, 4}, {"\xffb", 0, 3}, {"\xff", 0, 2}, {"\xe2\x82.....", 0, 4}, {"€.....", 1, 5}} {
			tok, behind, to := x.Look(c.text, c.at, modes)
			if tok.Rule != -1 || to != c.to || !slices.Equal(behind, modes) {
				t.Errorf("%q at %d in %v: %+v, %v, looked to %d, want %d", c.text, c.at, modes, tok, behind, to, c.to)
			}
		}
	}
}

// P43: at the end, and where there is no place.
func TestLookAtTheEnd(t *testing.T) {
	x := plainScanner(t, "a")
	for _, s := range []string{"", "a", "ab", "\xff"} {
		for _, at := range []int{len(s), len(s) + 1, -1, math.MaxInt, math.MinInt} {
			for _, modes := range [][]int{nil, {0}, {7}, {-1}} {
				if tok, _, to := x.Look(s, at, modes); tok.Rule != -2 || to != len(s)+1 {
					t.Errorf("%q at %d in %v: %+v, looked to %d", s, at, modes, tok, to)
				}
			}
		}
	}
}

// P43: the token and the modes are those of Next.
func TestLookIsNext(t *testing.T) {
	x := newOf(t, modeRules(t))
	for _, s := range []string{"a<b>a!c", ">\xff<", "€"} {
		for at := -1; at <= len(s)+1; at++ {
			for _, modes := range [][]int{nil, {0}, {1}, {0, 1}, {0, 1, 2}, {9}} {
				tok, behind := x.Next(s, at, modes)
				tok2, behind2, _ := x.Look(s, at, modes)
				if tok != tok2 || !slices.Equal(behind, behind2) {
					t.Errorf("%q at %d in %v: %+v, %v and %+v, %v", s, at, modes, tok, behind, tok2, behind2)
				}
			}
		}
	}
}

// P43: what stands behind the byte up to which it had to look changes nothing.
func TestLookWasFarEnough(t *testing.T) {
	d := &dice{seed: 77}
	x := plainScanner(t, "a", "a*b", "[é€]+", `\u{FFFD}+a`, "ab[^]{3}c", `[^\u{FFFD}]\n`)
	for range 30000 {
		s := d.text(6)
		for at := range len(s) {
			tok, _, to := x.Look(s, at, nil)
			if to > len(s) {
				continue
			}
			other, _, far := x.Look(s[:to]+d.text(4), at, nil)
			if other != tok || far != to {
				t.Fatalf("%q at %d: looked to %d, %+v, but %+v, %d", s, at, to, tok, other, far)
			}
		}
	}
}
