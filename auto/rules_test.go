package auto_test

import (
	"errors"
	"slices"
	"strconv"
	"testing"

	"grammarsmith/api"
	"grammarsmith/auto"
	"grammarsmith/pattern"
)

// P34: ordinary rules.
func TestRules(t *testing.T) {
	for _, c := range []struct {
		rules  []string
		states int
		want   map[string]int
	}{
		{nil, 0, map[string]int{"": -1, "a": -1}},
		{[]string{"[]"}, 0, map[string]int{"": -1, "a": -1}},
		{[]string{"a"}, 2, map[string]int{"": -1, "a": 0, "aa": -1}},
		{[]string{"if", "[a-z]+"}, 4, map[string]int{"": -1, "if": 0, "i": 1, "iff": 1, "f": 1, "x": 1, "if ": -1}},
		{[]string{"[a-z]+", "if"}, 2, map[string]int{"if": 0, "i": 0, "": -1}},
		{[]string{"", "a*"}, 2, map[string]int{"": 0, "a": 1, "aaa": 1}},
		{[]string{"a*", ""}, 1, map[string]int{"": 0, "a": 0}},
		{[]string{"[]", "a", "a", "b"}, 3, map[string]int{"a": 1, "b": 3, "": -1}},
		{[]string{"a", "b", "c"}, 4, map[string]int{"a": 0, "b": 1, "c": 2}},
		{[]string{"[ab]", "[bc]", "[cd]"}, 4, map[string]int{"a": 0, "b": 0, "c": 1, "d": 2}},
		{[]string{"~[]", "a"}, 1, map[string]int{"": 0, "a": 0}},
		{[]string{"a", "~[]"}, 3, map[string]int{"a": 0, "": 1, "aa": 1, "\xff": 1}},
		{[]string{`\u{FFFD}`, "[^]"}, 3, map[string]int{"\xff": 0, "\uFFFD": 0, "x": 1, "\xff\xff": -1}},
		{[]string{"(aa)*", "(aaa)*", "a*"}, 6, map[string]int{"": 0, "a": 2, "aa": 0, "aaa": 1, "aaaaa": 2, "aaaaaa": 0, "aaaaaaaaa": 1}},
	} {
		a, err := auto.Rules(readAll(t, c.rules...))
		if err != nil || len(a.States) != c.states {
			t.Errorf("%q: %v, %d states, want %d", c.rules, err, len(a.States), c.states)
		}
		checkLeast(t, "rules", a)
		for s, want := range c.want {
			if got := auto.Run(a, s); got != want {
				t.Errorf("%q: %q is taken by %d, want %d", c.rules, s, got, want)
			}
		}
	}
	if a, err := auto.Rules([]*api.Re{}); err != nil || len(a.States) != 0 {
		t.Errorf("an empty list: %v, %v", a, err)
	}
}

// P34: many lists of patterns.
func TestRulesOfManyPatterns(t *testing.T) {
	all := texts(4, "a", "b", "c", "\n")
	l := validOnes(41, 600)
	for n := 2; n <= 5; n++ {
		for at := 0; at+n <= len(l); at += 3 * n {
			rules := l[at : at+n]
			a, err := auto.Rules(rules)
			if err != nil {
				t.Fatal(err)
			}
			if len(a.States) <= 40 {
				checkLeast(t, "mixed", a)
			}
			for _, s := range all {
				want := slices.IndexFunc(rules, func(p *api.Re) bool { return pattern.Matches(p, s) })
				if got := auto.Run(a, s); got != want {
					t.Fatalf("%d rules from %d on: %q is taken by %d, want %d", n, at, s, got, want)
				}
			}
		}
	}
}

// P34: one rule alone is what Of gives.
func TestRulesOfOne(t *testing.T) {
	for _, p := range validOnes(43, 200) {
		a, errA := auto.Rules([]*api.Re{p})
		b, errB := auto.Of(p)
		if errA != nil || errB != nil || !same(a, b) {
			t.Fatalf("%v, %v: %v, %v", a, errA, b, errB)
		}
	}
}

func checkFault(t *testing.T, name string, l []*api.Re, want error, at int) {
	t.Helper()
	a, err := auto.Rules(l)
	var fault *api.Fault
	if !errors.As(err, &fault) || err != error(fault) || fault.Err != want || fault.At != at || a.States != nil {
		t.Errorf("%s: %v, %v, want %v at %d", name, a, err, want, at)
	}
}

// P34: the first pattern that is wrong.
func TestRulesWithWrongPatterns(t *testing.T) {
	good, huge := read(t, "a+"), read(t, "[ab]*a[ab]{8}")
	for name, p := range wrongPatterns() {
		checkFault(t, name, []*api.Re{p}, api.ErrSyntax, 0)
		checkFault(t, name, []*api.Re{good, good, p, good}, api.ErrSyntax, 2)
		checkFault(t, name, []*api.Re{good, p, huge}, api.ErrSyntax, 1)
		checkFault(t, name, []*api.Re{huge, p}, api.ErrBound, 0)
	}
	checkFault(t, "too many states", []*api.Re{good, huge}, api.ErrBound, 1)
	checkFault(t, "too many states in a part", []*api.Re{good, good, read(t, "([ab]*a[ab]{8})&[]"), nil}, api.ErrBound, 2)
	checkFault(t, "nils", []*api.Re{nil, nil}, api.ErrSyntax, 0)
}

// named are so many patterns that stand for one text each.
func named(t *testing.T, count int) []*api.Re {
	t.Helper()
	var l []*api.Re
	for i := range count {
		l = append(l, read(t, strconv.Itoa(i)))
	}
	return l
}

// P34: MaxRules rules, and one more.
func TestRulesAtMaxRules(t *testing.T) {
	l := named(t, api.MaxRules)
	a, err := auto.Rules(l)
	if err != nil {
		t.Fatal(err)
	}
	checkLeast(t, "MaxRules", a)
	for i := range l {
		if got := auto.Run(a, strconv.Itoa(i)); got != i {
			t.Errorf("%d is taken by %d", i, got)
		}
	}
	if got := auto.Run(a, "0199"); got != -1 {
		t.Errorf("0199 is taken by %d", got)
	}
	const most = api.MaxRules
	more := append(named(t, most), read(t, "x"))
	checkFault(t, "one more", more, api.ErrBound, most+1)
	checkFault(t, "many more", append(more, more...), api.ErrBound, 2*most+2)
	checkFault(t, "the same ones", slices.Repeat([]*api.Re{read(t, "x")}, 5000), api.ErrBound, 5000)
	checkFault(t, "one more, and a wrong one", append(more, nil, nil), api.ErrSyntax, most+1)
	more[7] = nil
	checkFault(t, "one more, and a wrong one early", more, api.ErrSyntax, 7)
	more[most], more[7] = read(t, "[ab]*a[ab]{8}"), more[8]
	checkFault(t, "one more, which is too large", more, api.ErrBound, most)
}

// P34: MaxStates states of all together, and one more.
func TestRulesAtMaxStates(t *testing.T) {
	parts := []string{"[ab]*a[ab]{7}", "y[ab]*a[ab]{6}", "z[ab]*a[ab]{5}", "u[ab]*a[ab]{4}", "v[ab]*a[ab]{3}"}
	for _, c := range []struct {
		more   string
		states int
	}{{"[]", 497}, {"c", 498}, {"cc", 499}, {"ccc", 500}, {"cccc", 501}} {
		l := readAll(t, append(slices.Clone(parts), c.more)...)
		if c.states > api.MaxStates {
			checkFault(t, c.more, l, api.ErrBound, len(l))
			continue
		}
		if a, err := auto.Rules(l); err != nil || len(a.States) != c.states {
			t.Errorf("%q: %d states, %v, want %d", c.more, len(a.States), err, c.states)
		}
	}
	checkFault(t, "far too many", readAll(t, "[a-h]*[abef][a-h]{7}", "[a-h]*[aceg][a-h]{7}", "[a-h]*[abcd][a-h]{7}", "[a-h]*[gh][a-h]{7}"), api.ErrBound, 4)
	few := readAll(t, "~[]", "[a-h]*[abef][a-h]{7}", "[a-h]*[aceg][a-h]{7}", "[a-h]*[abcd][a-h]{7}", "[a-h]*[gh][a-h]{7}")
	if a, err := auto.Rules(few); err != nil || len(a.States) != 1 {
		t.Errorf("all by the first rule: %d states, %v", len(a.States), err)
	}
}

// P34: as many rules as may be, each with many states, of which few are left.
func TestRulesWithManyStates(t *testing.T) {
	l := slices.Repeat(readAll(t, "[ab]*a[ab]{7}"), api.MaxRules)
	a, err := auto.Rules(l)
	if err != nil || len(a.States) != 256 {
		t.Errorf("%d states, %v", len(a.States), err)
	}
	if got := auto.Run(a, "abbbbbbb"); got != 0 {
		t.Errorf("taken by %d", got)
	}
}

func checkFit(t *testing.T, name string, l []*api.Re, want int) {
	t.Helper()
	a, count := auto.Fit(l)
	if count != want {
		t.Fatalf("%s: %d fit, want %d", name, count, want)
	}
	if b, err := auto.Rules(l[:count]); err != nil || !same(a, b) {
		t.Errorf("%s: %v, %v", name, a, err)
	}
}

// Fit gives what Rules gives of the patterns up to the first of which it gives an error.
func TestFit(t *testing.T) {
	large := []string{"[ab]*a[ab]{7}", "y[ab]*a[ab]{6}", "z[ab]*a[ab]{5}", "u[ab]*a[ab]{4}", "v[ab]*a[ab]{3}"}
	with := func(more ...string) []*api.Re { return readAll(t, append(slices.Clone(large), more...)...) }
	checkFit(t, "none", nil, 0)
	checkFit(t, "some", readAll(t, "a", "[]", "a", "b*", ""), 5)
	checkFit(t, "MaxStates", with("ccc"), 6)
	checkFit(t, "one state more", with("cccc"), 5)
	checkFit(t, "one state more, and others", with("cc", "ccc", "d", "e", "cc"), 7)
	checkFit(t, "far too many", readAll(t, "x", "[a-h]*[abef][a-h]{7}", "[a-h]*[aceg][a-h]{7}", "[a-h]*[abcd][a-h]{7}", "y"), 2)
	checkFit(t, "all by the first rule", readAll(t, "~[]", "[a-h]*[abef][a-h]{7}", "[a-h]*[aceg][a-h]{7}", "[a-h]*[abcd][a-h]{7}"), 4)
	checkFit(t, "nil", []*api.Re{nil}, 0)
	checkFit(t, "a wrong one", append(readAll(t, "a", "b"), nil, read(t, "c"), nil), 2)
	checkFit(t, "a pattern that is too large", readAll(t, "a", "b", "c", "[ab]*a[ab]{8}", "d"), 3)
	checkFit(t, "a wrong one behind too many states", append(with("cccc"), nil), 5)
	checkFit(t, "MaxRules", named(t, api.MaxRules), api.MaxRules)
	checkFit(t, "more than MaxRules", named(t, api.MaxRules+7), api.MaxRules)
}

// P1, P34: many rules that are hard together are settled soon, those that have too many states too.
func TestRulesThatAreHard(t *testing.T) {
	var hard, covered []string
	for i := range 100 {
		letters, own := string([]byte{byte('a' + i%8), byte('a' + (i*3+1)%8)}), strconv.FormatInt(int64(0x1000+i), 16)
		hard = append(hard, "[a-h]*["+letters+"][a-h]{7}\\u{"+own+"}")
		covered = append(covered, "[a-h]*["+letters+"][a-h]{7}|y\\u{"+own+"}")
	}
	checkFault(t, "hard", readAll(t, hard...), api.ErrBound, len(hard))
	a, err := auto.Rules(readAll(t, append([]string{"[a-h]+"}, covered...)...))
	if err != nil || len(a.States) != 103 || auto.Run(a, "abcdefgh") != 0 || auto.Run(a, "y\u1007") != 8 {
		t.Errorf("%v, %d states", err, len(a.States))
	}
}
