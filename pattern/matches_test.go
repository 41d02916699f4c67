package pattern_test

import (
	"slices"
	"strings"
	"testing"

	"grammarsmith/api"
	"grammarsmith/pattern"
	"grammarsmith/points"
)

// P24: ordinary texts.
func TestMatches(t *testing.T) {
	for _, c := range []struct {
		pattern  string
		yes, not []string
	}{
		{"", []string{""}, []string{"a", "\n"}},
		{"[]", nil, []string{"", "a"}},
		{"~[]", []string{"", "a", "ab\n"}, nil},
		{"[^]", []string{"a", "\n", "é", "\xff"}, []string{"", "aa"}},
		{".", []string{"a", "\r", "𝄞", "\xff"}, []string{"", "\n", "\r\n"}},
		{"~()", []string{"a", "ab"}, []string{""}},
		{"if", []string{"if"}, []string{"", "i", "f", "fi", "iff"}},
		{"a|bc", []string{"a", "bc"}, []string{"", "b", "abc", "ac"}},
		{"a|", []string{"a", ""}, []string{"aa"}},
		{"[ab]*&.a.", []string{"aab", "bab", "aaa"}, []string{"", "ab", "bbb", "cab", "aaaa"}},
		{"[0-9]+&~(0.+)", []string{"0", "7", "10", "905"}, []string{"", "00", "01", "1a"}},
		{"~0.+", []string{"11", "1x", "xyz"}, []string{""}},
		{"~(a*)", []string{"b", "ab", "aab"}, []string{"", "a", "aaa"}},
		{"~a*", []string{"", "b", "aa", "aba"}, []string{"a"}},
		{"a*", []string{"", "a", "aaaa"}, []string{"b", "aab"}},
		{"a+", []string{"a", "aaaa"}, []string{"", "ba"}},
		{"a?", []string{"", "a"}, []string{"aa"}},
		{"a{3}", []string{"aaa"}, []string{"", "aa", "aaaa"}},
		{"a{2,}", []string{"aa", "aaaaa"}, []string{"", "a"}},
		{"a{2,4}", []string{"aa", "aaa", "aaaa"}, []string{"a", "aaaaa"}},
		{"(a?){3}", []string{"", "a", "aa", "aaa"}, []string{"aaaa"}},
		{"(aa|aaa){2}", []string{"aaaa", "aaaaa", "aaaaaa"}, []string{"aaa", "aaaaaaa"}},
		{"(a*)*b", []string{"b", "aab"}, []string{"", "a", "ba"}},
		{"(ab|a)(bc|c)", []string{"abc", "abbc", "ac"}, []string{"ab", "abcc"}},
		{`/\*~(.*\*/.*)\*/`, []string{"/**/", "/* a */", "/***/"}, []string{"/*/", "/* */ */", ""}},
		{`"([^"\\\n]|\\.)*"`, []string{`""`, `"a"`, `"\""`, `"\\"`}, []string{`"`, `"\"`, "\"\n\""}},
		{"é{2}", []string{"éé"}, []string{"é", "\xc3\xa9\xc3"}},
		{`\u{FFFD}`, []string{"\uFFFD", "\xff", "\xc3", "\x80"}, []string{"", "\xe2\x82", "a"}},
		{`\u{FFFD}{2}`, []string{"\xe2\x82", "\xff\uFFFD"}, []string{"\xff"}},
		{"a\uFFFDb", []string{"a\xffb", "a\xc3b"}, []string{"ab", "a\xe2\x82b"}},
		{`[\u{D800}-\u{DFFF}]+`, nil, []string{"", "\xed\xa0\x80"}},
		{`\u{FFFD}{3}`, []string{"\xed\xa0\x80"}, nil},
		{`\u{10FFFF}`, []string{"\U0010FFFF"}, []string{"\xf4\x90\x80\x80"}},
		{`\u{0}`, []string{"\x00"}, []string{""}},
	} {
		p := mustRead(t, c.pattern)
		for _, s := range c.yes {
			if !pattern.Matches(p, s) {
				t.Errorf("%q does not stand for %q", c.pattern, s)
			}
		}
		for _, s := range c.not {
			if pattern.Matches(p, s) {
				t.Errorf("%q stands for %q", c.pattern, s)
			}
		}
	}
}

// stands says by the words of P20, not by the program, whether a pattern stands for points.
func stands(p *api.Re, l []int) bool {
	switch p.Kind {
	case api.RSet:
		return len(l) == 1 && slices.ContainsFunc(p.Set, func(r api.Range) bool { return r.Lo <= l[0] && l[0] <= r.Hi })
	case api.RCat:
		return standInRow(p.Kids, l)
	case api.ROr:
		return slices.ContainsFunc(p.Kids, func(k *api.Re) bool { return stands(k, l) })
	case api.RAnd:
		return !slices.ContainsFunc(p.Kids, func(k *api.Re) bool { return !stands(k, l) })
	case api.RNot:
		return !stands(p.Kids[0], l)
	}
	// More texts than points and Min are of no use: the others would be empty.
	most := p.Max
	if most < 0 {
		most = p.Min + len(l)
	}
	for n := p.Min; n <= most; n++ {
		if standInRow(times(p.Kids[0], n), l) {
			return true
		}
	}
	return false
}

func standInRow(kids []*api.Re, l []int) bool {
	if len(kids) == 0 {
		return len(l) == 0
	}
	for i := range len(l) + 1 {
		if stands(kids[0], l[:i]) && standInRow(kids[1:], l[i:]) {
			return true
		}
	}
	return false
}

// P20, P24: many patterns on all short texts of a few points.
func TestMatchesOfManyPatterns(t *testing.T) {
	texts := []string{""}
	for from, n := 0, 0; n < 3; n++ {
		end := len(texts)
		for _, s := range texts[from:end] {
			for _, c := range []string{"a", "b", "c", "\n"} {
				texts = append(texts, s+c)
			}
		}
		from = end
	}
	met := 0
	for _, p := range validOnes(1500) {
		if light(p) > 40 {
			continue
		}
		for _, s := range texts {
			want := stands(p, points.Points(s))
			if pattern.Matches(p, s) != want {
				text, _ := pattern.Write(p)
				t.Fatalf("%q on %q: not %v", text, s, want)
			}
			if want {
				met++
			}
		}
	}
	if met < 1000 {
		t.Errorf("only %d texts are met", met)
	}
}

// light is how many patterns there are in one.
func light(p *api.Re) int {
	n := 1
	for _, k := range p.Kids {
		n += light(k)
	}
	return n
}

// P24: 200 points are no burden, whatever the pattern.
func TestMatchesOfLongTexts(t *testing.T) {
	long := strings.Repeat("a", 200)
	for _, c := range []struct {
		pattern, text string
		want          bool
	}{
		{"a*", long, true},
		{"a*b", long, false},
		{"((((a*)*)*)*)*", long, true},
		{"(a|aa|aaa)*b", long, false},
		{"(a?){25}", long[:25], true},
		{"(a?){25}", long[:26], false},
		{"(a*){25}b?", long, true},
		{"a{50}a{5,}", long, true},
		{"(a{5}){5,}", long, true},
		{"(a{5}){5,}", long[:199], false},
		{"(~(~(~(~(~(.*b.*)a)a)a)a)a)*", long, true},
		{"~(~(~a~a)~(~a~a))", long, true},
		{"(.*a.*&.*&~(.*b.*))*", long, true},
		{"(.*a.*&.*&~(.*a.*))+", long, false},
		{".*b.{40}", long[:159] + "b" + long[:40], true},
		{".*b.{40}", long[:158] + "b" + long[:41], false},
		{"~(.*b.{40})", long[:158] + "b" + long[:41], true},
	} {
		p := mustRead(t, c.pattern)
		if got := pattern.Matches(p, c.text); got != c.want {
			t.Errorf("%q on %d points: %v", c.pattern, len(c.text), got)
		}
	}
}

// Longer texts are told too, also when not all that is found is kept.
func TestMatchesOfVeryLongTexts(t *testing.T) {
	text := strings.Repeat("ab", 10000)
	for _, c := range []struct {
		pattern string
		want    bool
	}{{"(ab)*", true}, {"(ab)*a", false}, {"(a|b)*", true}, {".*&~(.*aa.*)", true}, {".*bb.*", false}, {"(~(c+))*", true}} {
		if got := pattern.Matches(mustRead(t, c.pattern), text); got != c.want {
			t.Errorf("%q: %v", c.pattern, got)
		}
	}
}

// P24, P1: what is not valid stands for nothing.
func TestMatchesOfWhatIsNotValid(t *testing.T) {
	for name, p := range odd() {
		for _, s := range []string{"", "a", "aa", "\xff"} {
			if pattern.Matches(p, s) {
				t.Errorf("%s: stands for %q", name, s)
			}
		}
	}
}
