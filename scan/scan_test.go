package scan_test

import (
	"slices"
	"strings"
	"testing"

	"grammarsmith/api"
	"grammarsmith/scan"
)

// P42: the tokens of a text, whole.
func TestScan(t *testing.T) {
	x := plainScanner(t, "if", "[a-z]+")
	for _, c := range []struct {
		text string
		want []api.Token
	}{
		{"", nil},
		{"iffy if", []api.Token{{Rule: 1, From: 0, To: 4, Line: 1, Col: 1}, {Rule: -1, From: 4, To: 5, Line: 1, Col: 5}, {Rule: 0, From: 5, To: 7, Line: 1, Col: 6}}},
		{"a\nbé\n\xffif", []api.Token{
			{Rule: 1, From: 0, To: 1, Line: 1, Col: 1}, {Rule: -1, From: 1, To: 2, Line: 1, Col: 2}, {Rule: 1, From: 2, To: 3, Line: 2, Col: 1}, {Rule: -1, From: 3, To: 5, Line: 2, Col: 2},
			{Rule: -1, From: 5, To: 6, Line: 2, Col: 3}, {Rule: -1, From: 6, To: 7, Line: 3, Col: 1}, {Rule: 0, From: 7, To: 9, Line: 3, Col: 2},
		}},
		{"\xe2\x82", []api.Token{{Rule: -1, From: 0, To: 1, Line: 1, Col: 1}, {Rule: -1, From: 1, To: 2, Line: 1, Col: 2}}},
		{"\n\n", []api.Token{{Rule: -1, From: 0, To: 1, Line: 1, Col: 1}, {Rule: -1, From: 1, To: 2, Line: 2, Col: 1}}},
	} {
		if got := x.Scan(c.text); !slices.Equal(got, c.want) {
			t.Errorf("%q: %+v, want %+v", c.text, got, c.want)
		}
	}
}

func rulesOf(l []api.Token) []int {
	var out []int
	for _, tok := range l {
		out = append(out, tok.Rule)
	}
	return out
}

// P42: tokens of rules with Skip are left out; lines and modes go on over them.
func TestScanSkip(t *testing.T) {
	l := plainRules(t, "[a-z]+", "[ \n]+", "#", `"`)
	l[1].Skip, l[2].Skip, l[3].Skip = true, true, true
	l[2].Push, l[3].Push = 1, 2
	l = append(l, inMode(1, plainRules(t, `[^\n]+`, `\n`))...)
	l[4].Skip, l[5].Skip, l[5].Pop = true, true, true
	l = append(l, inMode(2, plainRules(t, `"`, `[^"]+`))...)
	l[6].Skip, l[6].Pop = true, true
	x := newOf(t, l)
	want := []api.Token{{Rule: 0, From: 1, To: 3, Line: 1, Col: 2}, {Rule: 0, From: 9, To: 10, Line: 2, Col: 1}, {Rule: 7, From: 13, To: 16, Line: 3, Col: 3}, {Rule: -1, From: 18, To: 19, Line: 4, Col: 1}}
	if got := x.Scan(" ab # c\"\nb\n \"d #\"\n?"); !slices.Equal(got, want) {
		t.Errorf("%+v", got)
	}
	if got := x.Scan(" \n # \"\n"); len(got) != 0 {
		t.Errorf("all are left out, but %+v", got)
	}
}

// P42: modes go on from token to token.
func TestScanModes(t *testing.T) {
	x := newOf(t, modeRules(t))
	for _, c := range []struct {
		text string
		want []int
	}{
		{"a<b>a", []int{3, 0, 7, 5, 3}},
		{">>a", []int{1, 1, 3}},
		{"<b<c<a>c>b>a", []int{0, 7, 4, 10, 8, 3, 1, 10, 9, 7, 5, 3}},
		{"!c>a", []int{2, 10, 9, 3}},
		{"<!c>a", []int{0, 6, 10, 9, 3}},
		{"b<ab", []int{-1, 0, -1, 7}},
	} {
		if got := rulesOf(x.Scan(c.text)); !slices.Equal(got, c.want) {
			t.Errorf("%q: %v, want %v", c.text, got, c.want)
		}
	}
}

// nextAll are the tokens that Next gives one behind the other.
func nextAll(x *scan.Scanner, l []api.Rule, s string) []api.Token {
	var out []api.Token
	tok, modes := x.Next(s, 0, nil)
	for tok.Rule != -2 {
		if tok.Rule == -1 || !l[tok.Rule].Skip {
			out = append(out, tok)
		}
		tok, modes = x.Next(s, tok.To, modes)
	}
	return out
}

// P42: Scan is Next, token by token, also where rules look far ahead in vain.
func TestScanIsNext(t *testing.T) {
	far := plainRules(t, "a", "[abc]*z", "b(ab)*y", "(abc|b)+[xy]", "c", "[a-c]*[^a-d]{40,}", "<", " ")
	far[6].Push, far[7].Skip = 1, true
	far = append(far, inMode(1, plainRules(t, "a+b", "[^]*q", ">", "[abc]"))...)
	far[10].Pop = true
	d := &dice{seed: 5}
	pieces := []string{"a", "b", "c", "ab", "abc", "aaaaaaaaaaaaaaaaaaaaaaaa", "€", "\xff", " ", "z", "y", "<", ">", "q"}
	x := newOf(t, far)
	for i := range 400 {
		var s strings.Builder
		some := pieces[:5+d.next(len(pieces)-5)]
		for range 20 + i {
			s.WriteString(one(d, some))
		}
		if got, want := x.Scan(s.String()), nextAll(x, far, s.String()); !slices.Equal(got, want) {
			t.Fatalf("%q: %+v, want %+v", s.String(), got, want)
		}
	}
}

// P42: where a mode looked in vain, another one may not.
func TestScanLooksAnewInEachMode(t *testing.T) {
	for _, inner := range []string{"[ac]+d", "a[ac]*d", "aa[ac]*d", "aaa[ac]*d", "aaaa[ac]*d"} {
		l := append(plainRules(t, "<", "<[ac]*b"), inMode(1, plainRules(t, inner))...)
		l[0].Push = 1
		s := "<" + strings.Repeat("ac", 10) + strings.Repeat("a", 300) + "d"
		s = strings.Replace(s, "acacac", "aaaaac", 1)
		if got := newOf(t, l).Scan(s); !slices.Equal(rulesOf(got), []int{0, 2}) || got[1].To != len(s) {
			t.Errorf("%q: %+v", inner, got)
		}
	}
}

// P1: Scan ends soon, also where each token has to look up to the end of a long text, or where each begins a mode.
func TestScanOfLongTexts(t *testing.T) {
	const length = 300000
	x := plainScanner(t, "a", "a*b", "[ac]*d")
	got := x.Scan(strings.Repeat("a", length))
	if len(got) != length || got[length-1] != (api.Token{Rule: 0, From: length - 1, To: length, Line: 1, Col: length}) {
		t.Errorf("%d tokens", len(got))
	}
	if got := x.Scan(strings.Repeat("a", length) + "b"); len(got) != 1 || got[0].Rule != 1 {
		t.Errorf("%d tokens", len(got))
	}
	l := plainRules(t, "a", ">")
	l[0].Push, l[1].Pop = 0, true
	if got := newOf(t, l).Scan(strings.Repeat("a", length) + strings.Repeat(">", length)); len(got) != 2*length {
		t.Errorf("%d tokens", len(got))
	}
}
