package scan_test

import (
	"math"
	"slices"
	"strconv"
	"testing"

	"grammarsmith/api"
	"grammarsmith/scan"
)

// P40: lists of rules that may stand.
func TestNew(t *testing.T) {
	for _, l := range [][]string{
		{"a"}, {"if", "[a-z]+"}, {"[a-z]+", "[a-z]+[0-9]"}, {"a|b", "b|c", "c|d"}, {"[^]"}, {"~()"}, {"a", "~()"}, {`\u{D800}`}, {"a", `a|\u{DFFF}`}, {"[0-9]+&~(0.+)", "[0-9]+"},
	} {
		if x, err := scan.New(plainRules(t, l...)); x == nil || err != nil {
			t.Errorf("%q: %v", l, err)
		}
	}
}

// P40: no rules at all are a scanner for which no rule stands.
func TestNewOfNoRules(t *testing.T) {
	for _, l := range [][]api.Rule{nil, {}} {
		x := newOf(t, l)
		want := []api.Token{{Rule: -1, From: 0, To: 1, Line: 1, Col: 1}, {Rule: -1, From: 1, To: 4, Line: 1, Col: 2}}
		if got := x.Scan("a€"); !slices.Equal(got, want) {
			t.Errorf("%+v", got)
		}
	}
}

// named are so many rules that stand for one text each.
func named(t *testing.T, count int) []api.Rule {
	t.Helper()
	var l []string
	for i := range count {
		l = append(l, "k"+strconv.Itoa(i))
	}
	return plainRules(t, l...)
}

// P40: MaxRules rules, and one more, which goes ahead of all that is wrong.
func TestNewAtMaxRules(t *testing.T) {
	x := newOf(t, named(t, api.MaxRules))
	for i := range api.MaxRules {
		if got := x.Scan("k" + strconv.Itoa(i)); len(got) != 1 || got[0].Rule != i {
			t.Fatalf("k%d: %+v", i, got)
		}
	}
	more := named(t, api.MaxRules+1)
	checkFault(t, "one more", more, api.ErrBound, api.MaxRules)
	checkFault(t, "many more", append(more, more...), api.ErrBound, api.MaxRules)
	more[3].Re, more[5].Mode, more[7].Push = nil, -1, 4
	checkFault(t, "one more, and wrong ones", more, api.ErrBound, api.MaxRules)
	checkFault(t, "one more, all of them empty", make([]api.Rule, api.MaxRules+1), api.ErrBound, api.MaxRules)
	checkFault(t, "no more, all of them empty", make([]api.Rule, api.MaxRules), api.ErrSyntax, 0)
}

// P40: which numbers are modes.
func TestNewModes(t *testing.T) {
	for mode := range api.MaxModes {
		l := append(plainRules(t, "a"), inMode(mode, plainRules(t, "b"))...)
		x := newOf(t, l)
		if tok, _ := x.Next("b", 0, []int{mode}); tok.Rule != 1 {
			t.Errorf("mode %d: %+v", mode, tok)
		}
	}
	for _, mode := range []int{-1, -2, api.MaxModes, api.MaxModes + 1, math.MinInt, math.MaxInt} {
		checkFault(t, strconv.Itoa(mode), inMode(mode, plainRules(t, "a")), api.ErrRule, 0)
		checkFault(t, strconv.Itoa(mode), append(plainRules(t, "a"), inMode(mode, plainRules(t, "b"))...), api.ErrRule, 1)
	}
}

// P40: which modes may be pushed.
func TestNewPush(t *testing.T) {
	rules := func(push int) []api.Rule {
		l := append(plainRules(t, "a", "b"), inMode(4, plainRules(t, "c"))...)
		l = append(l, inMode(api.MaxModes-1, plainRules(t, "d"))...)
		l[1].Push = push
		return l
	}
	for _, push := range []int{-1, 0, 4, api.MaxModes - 1} {
		if _, err := scan.New(rules(push)); err != nil {
			t.Errorf("%d: %v", push, err)
		}
	}
	for _, push := range []int{-2, 1, 3, 5, api.MaxModes - 2, api.MaxModes, 99, math.MinInt, math.MaxInt} {
		checkFault(t, strconv.Itoa(push), rules(push), api.ErrRule, 1)
	}
	self := inMode(7, plainRules(t, "a"))
	self[0].Push = 7
	newOf(t, self)
}

// P40: a number that is no mode may be pushed where a rule has it as its Mode: wrong is that rule.
func TestNewPushOfWrongModes(t *testing.T) {
	for _, mode := range []int{-5, api.MaxModes, 99} {
		l := append(plainRules(t, "a", "b"), inMode(mode, plainRules(t, "c"))...)
		l[0].Push = mode
		checkFault(t, strconv.Itoa(mode), l, api.ErrRule, 2)
	}
}

// P40: patterns that are not valid, or too large.
func TestNewWrongPatterns(t *testing.T) {
	for name, p := range wrongPatterns() {
		l := plainRules(t, "a", "b", "c")
		l[0].Re = p
		checkFault(t, name, l, api.ErrSyntax, 0)
		l = plainRules(t, "a", "b", "c")
		l[2].Re = p
		checkFault(t, name, l, api.ErrSyntax, 2)
	}
	checkFault(t, "too many states", plainRules(t, "c", huge), api.ErrBound, 1)
	checkFault(t, "too many states in a part", plainRules(t, "c", "d", "("+huge+")&[]"), api.ErrBound, 2)
	checkFault(t, "an empty rule", []api.Rule{{}}, api.ErrSyntax, 0)
}

// P40: patterns that stand for the empty text.
func TestNewEmptyText(t *testing.T) {
	for _, s := range []string{"", "a*", "a?", "~a", "~[]", "()|b", "a{0,3}", "(a|b*)*"} {
		checkFault(t, s, plainRules(t, s), api.ErrRule, 0)
		checkFault(t, s, plainRules(t, "a", "bb", s), api.ErrRule, 2)
	}
}

// P40: patterns with no text of their own.
func TestNewNothingOfItsOwn(t *testing.T) {
	for _, c := range []struct {
		rules []string
		at    int
	}{
		{[]string{"[]"}, 0}, {[]string{"a&b"}, 0}, {[]string{"a[]"}, 0}, {[]string{"a", "[]"}, 1}, {[]string{"[]", "a"}, 0},
		{[]string{"a", "a"}, 1}, {[]string{"a", "b", "a"}, 2}, {[]string{"[a-z]+", "if"}, 1}, {[]string{"[a-m]", "[n-z]", "[a-z]"}, 2},
		{[]string{"a+", "b+", "[ab]+&~(.*ab.*)&~(.*ba.*)"}, 2}, {[]string{"a", "a", "a"}, 1}, {[]string{"~()", `\u{D800}`}, 1}, {[]string{`[^\u{D800}]`, `\u{D800}`, "[^]"}, 2},
		{[]string{"a{1,3}", "a{4,}", "b", "a+"}, 3},
	} {
		checkFault(t, c.rules[c.at], plainRules(t, c.rules...), api.ErrRule, c.at)
	}
	// Lists of points count, also those that no text has; and only rules of the same mode.
	newOf(t, plainRules(t, "a", `a|\u{D800}`))
	newOf(t, plainRules(t, `[^\u{DC00}]`, "[^]"))
	newOf(t, append(plainRules(t, "a"), inMode(1, plainRules(t, "a"))...))
	l := append(plainRules(t, "a", "b"), inMode(1, plainRules(t, "b", "a"))...)
	newOf(t, l)
	checkFault(t, "in the other mode", append(l, inMode(1, plainRules(t, "[ab]"))...), api.ErrRule, 4)
}

// P40: MaxStates states of a mode, and one more.
func TestNewAtMaxStates(t *testing.T) {
	rules := func(more ...string) []api.Rule { return plainRules(t, append(manyStates(), more...)...) }
	newOf(t, rules("c"))
	newOf(t, rules("ccc"))
	checkFault(t, "one more", rules("cccc"), api.ErrBound, 5)
	checkFault(t, "one more, by two rules", rules("ccc", "d"), api.ErrBound, 6)
	checkFault(t, "one more, and more behind it", rules("cc", "ccd", "cccc", "dd"), api.ErrBound, 7)
	checkFault(t, "far more", plainRules(t, "c", "[a-h]*[abef][a-h]{7}", "d", "[a-h]*[aceg][a-h]{7}", "[a-h]*[abcd][a-h]{7}"), api.ErrBound, 3)
	checkFault(t, "nothing of its own goes on", rules("ccc", "ccc"), api.ErrRule, 6)
	if x := newOf(t, rules("ccc")); x.Scan("abbbbbbb")[0].Rule != 0 || x.Scan("ccc")[0].Rule != 5 {
		t.Error("MaxStates states")
	}
}

// P40: each mode has states of its own; the place is the number among all rules.
func TestNewAtMaxStatesOfModes(t *testing.T) {
	l := append(plainRules(t, append(manyStates(), "ccc")...), inMode(3, plainRules(t, append(manyStates(), "ccc")...))...)
	newOf(t, l)
	l = append(l, inMode(2, plainRules(t, "x", "y"))...)
	newOf(t, l)
	checkFault(t, "one more in mode 3", append(slices.Clone(l), inMode(3, plainRules(t, "dd"))...), api.ErrBound, 14)
	l[2].Mode, l[4].Mode = 5, 6
	newOf(t, l)
	l = append(l, inMode(6, plainRules(t, "y", "[yz]"))...)
	l = append(l, inMode(3, plainRules(t, "dd"))...)
	checkFault(t, "rules of modes among each other", l, api.ErrBound, 16)
}

// P40: of several things that are wrong in one rule the first is told.
func TestNewSeveralWrongInOneRule(t *testing.T) {
	wrongIn := func(s string, mode, push int) []api.Rule {
		l := plainRules(t, append(manyStates(), s)...)
		l[5].Mode, l[5].Push = mode, push
		return l
	}
	checkFault(t, "too large, and all else", wrongIn("("+huge+")|()", -1, 9), api.ErrBound, 5)
	checkFault(t, "a mode, ahead of a push and the empty text", wrongIn("a*", 16, 9), api.ErrRule, 5)
	checkFault(t, "a mode, ahead of too many states", wrongIn("ccccc", 16, -1), api.ErrRule, 5)
	checkFault(t, "a push, ahead of too many states", wrongIn("ccccc", 0, 9), api.ErrRule, 5)
	checkFault(t, "the empty text, ahead of too many states", wrongIn("(ccccc)*", 0, -1), api.ErrRule, 5)
	l := wrongIn("a", -1, 9)
	l[5].Re = nil
	checkFault(t, "no pattern, ahead of all else", l, api.ErrSyntax, 5)
}

// P40: of several rules that are wrong the first is told, whatever is wrong with it.
func TestNewSeveralWrongRules(t *testing.T) {
	wrongs := []struct {
		want error
		put  func(l []api.Rule, i int)
	}{
		{api.ErrSyntax, func(l []api.Rule, i int) { l[i].Re = nil }},
		{api.ErrBound, func(l []api.Rule, i int) { l[i].Re = read(t, huge) }},
		{api.ErrRule, func(l []api.Rule, i int) { l[i].Mode = api.MaxModes }},
		{api.ErrRule, func(l []api.Rule, i int) { l[i].Push = 9 }},
		{api.ErrRule, func(l []api.Rule, i int) { l[i].Re = read(t, "q*") }},
		{api.ErrBound, func(l []api.Rule, i int) { l[i].Re = read(t, "[cd]{40}") }},
		{api.ErrRule, func(l []api.Rule, i int) { l[i].Re = read(t, "[ab]*aaaaaaaa") }},
		{api.ErrRule, func(l []api.Rule, i int) { l[i].Re = read(t, "[]") }},
	}
	for i, first := range wrongs {
		for k, second := range wrongs {
			l := append(plainRules(t, manyStates()...), inMode(1, plainRules(t, "a"))...)
			l = append(l, plainRules(t, "c", "d", "e")...)
			first.put(l, 6)
			second.put(l, 8)
			checkFault(t, strconv.Itoa(i)+" and "+strconv.Itoa(k), l, first.want, 6)
		}
	}
}

// P40: what is wrong within modes is told by its number, not mode by mode.
func TestNewWrongInSeveralModes(t *testing.T) {
	l := append(plainRules(t, "a"), inMode(2, plainRules(t, "a", "a"))...)
	l = append(l, plainRules(t, "a")...)
	checkFault(t, "mode 2 first", l, api.ErrRule, 2)
	l = append(inMode(2, plainRules(t, "a")), plainRules(t, "a", "a")...)
	l = append(l, inMode(2, plainRules(t, "a"))...)
	checkFault(t, "mode 0 first", l, api.ErrRule, 2)
	l[3].Re = nil
	checkFault(t, "and a nil pattern", l, api.ErrRule, 2)
	l[1].Re = nil
	checkFault(t, "a nil pattern first", l, api.ErrSyntax, 1)
}

// P1: New ends soon also of many rules that are hard together.
func TestNewOfHardRules(t *testing.T) {
	catchAll, hard := []string{"[a-h]+"}, []string{"q", "q"}
	for i := range 120 {
		letters := string([]byte{byte('a' + i%8), byte('a' + (i*3+1)%8)})
		own := strconv.FormatInt(int64(0x1000+i), 16)
		catchAll = append(catchAll, "[a-h]*["+letters+"][a-h]{7}|y\\u{"+own+"}")
		hard = append(hard, "[a-h]*["+letters+"][a-h]{7}\\u{"+own+"}")
	}
	x := newOf(t, plainRules(t, catchAll...))
	if got := x.Scan("ababababy\u1005"); len(got) != 2 || got[0].Rule != 0 || got[1].Rule != 6 {
		t.Errorf("%+v", got)
	}
	checkFault(t, "hard ones behind a wrong one", plainRules(t, hard...), api.ErrRule, 1)
	checkFault(t, "hard ones", plainRules(t, hard[1:]...), api.ErrBound, 2)
}
