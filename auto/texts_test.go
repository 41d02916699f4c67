package auto_test

import (
	"slices"
	"strings"
	"testing"

	"grammarsmith/api"
	"grammarsmith/auto"
	"grammarsmith/points"
)

// P35: ordinary automata and the edges.
func TestApart(t *testing.T) {
	for _, c := range []struct {
		a, b  string
		want  string
		found bool
	}{
		{"a|b", "[ab]", "", false}, {"a*", "a+", "", true}, {"a*", "a{0,2}", "aaa", true}, {"[]", "[]", "", false}, {"[]", "~[]", "", true}, {"[]", "[^]+", "\x00", true},
		{"abc", "abd", "abc", true}, {"abd", "abc", "abc", true}, {"b|a", "b|c", "a", true}, {"ba|ab", "ba", "ab", true}, {"x|aa", "aa", "x", true}, {"[b-z]", "[a-y]", "a", true},
		{".*a.{6}", ".*a.{6}&~()", "", false}, {"(a{4})*", "(a{6})*", "aaaa", true}, {"~(.*b)", "~(.*b.*)", "b\x00", true}, {`\n`, "[]", "\n", true},
		{"[0-9]+&~(0.+)", "0|[1-9][0-9]*", "", false}, {"[0-9]+", "0|[1-9][0-9]*", "00", true}, {`[\u{D7FF}-\u{E000}]`, `[]`, "\uD7FF", true}, {`[\u{D800}-\u{E000}]`, `[]`, "\uE000", true},
		{`[\u{D800}-\u{DFFF}]`, "[]", "", false}, {`[\u{D800}-\u{DFFF}]|zz`, "[]", "zz", true}, {`\u{D900}a|zzz`, "zzzz", "zzz", true}, {`a\u{DFFF}*`, "a", "", false}, {`[\u{DBFF}-\u{10FFFF}]`, `[\u{E001}-\u{10FFFF}]`, "\uE000", true},
		{`\u{FFFD}`, "[]", "\uFFFD", true}, {`\u{10FFFF}`, "[]", "\U0010FFFF", true}, {"~[]", `~\u{10FFFF}`, "\U0010FFFF", true}, {`~[]`, `~\u{0}`, "\x00", true},
	} {
		for _, l := range [][2]api.Auto{{of(t, c.a), of(t, c.b)}, {of(t, c.b), of(t, c.a)}} {
			if s, found := auto.Apart(l[0], l[1]); s != c.want || found != c.found {
				t.Errorf("%q, %q: %q, %v, want %q, %v", c.a, c.b, s, found, c.want, c.found)
			}
		}
	}
}

// P35: the rules count, not only what is taken; and automata need not be the least.
func TestApartByRules(t *testing.T) {
	of := func(l ...string) api.Auto {
		a, err := auto.Rules(readAll(t, l...))
		if err != nil {
			t.Fatal(err)
		}
		return a
	}
	for _, c := range []struct {
		a, b  api.Auto
		want  string
		found bool
	}{
		{of("if", "[a-z]+"), of("[]", "[a-z]+"), "if", true},
		{of("if", "[a-z]+"), of("if", "[a-z]+"), "", false},
		{of("a", "b"), of("b", "a"), "a", true},
		{of("a", "b"), of("a|b"), "b", true},
		{of("a*"), of("", "a*"), "a", true},
		{api.Auto{}, api.Auto{States: states{{Rule: -1, Moves: moves{{Lo: 0, Hi: 9, To: 0}}}}}, "", false},
		{api.Auto{States: states{{Rule: 3}, {Rule: 4}}}, api.Auto{States: states{{Rule: 3}}}, "", false},
		{api.Auto{States: states{{Rule: 3}}}, api.Auto{States: states{{Rule: 4}}}, "", true},
	} {
		for _, l := range [][2]api.Auto{{c.a, c.b}, {c.b, c.a}} {
			if s, found := auto.Apart(l[0], l[1]); s != c.want || found != c.found {
				t.Errorf("%v, %v: %q, %v, want %q, %v", l[0], l[1], s, found, c.want, c.found)
			}
		}
	}
}

// firstOf goes through all texts of up to so many points in their order, and gives the first that is wanted. Of the points only those count at which something changes.
func firstOf(most int, wanted func(l []int) bool, l ...api.Auto) (string, bool) {
	at := slices.DeleteFunc(append(edges(l...), 0xE000), func(p int) bool { return p >= 0xD800 && p <= 0xDFFF })
	slices.Sort(at)
	level := [][]int{nil}
	for range most + 1 {
		var longer [][]int
		for _, text := range level {
			if wanted(text) {
				return points.Text(text), true
			}
			for _, p := range at {
				longer = append(longer, append(slices.Clone(text), p))
			}
		}
		level = longer
	}
	return "", false
}

// P35, P36: many automata, against all short texts in their order.
func TestFirstTextsOfManyAutomata(t *testing.T) {
	const most = 3
	d := &dice{seed: 29}
	met := 0
	for range 250 {
		a, b := d.automaton(4, 2), d.automaton(4, 2)
		switch d.next(4) {
		case 0:
			b = blurred(a, d)
		case 1:
			b = copyOf(a)
			b.States[d.next(len(b.States))].Rule = 1
		}
		want, there := firstOf(most, func(l []int) bool { return walk(a, l) != walk(b, l) }, a, b)
		got, found := auto.Apart(a, b)
		if there && (got != want || !found) || !there && found && len(points.Points(got)) <= most {
			t.Fatalf("Apart is %q, %v, want %q, %v: %v, %v", got, found, want, there, a, b)
		}
		if found && auto.Run(a, got) == auto.Run(b, got) || !found && got != "" {
			t.Fatalf("Apart is %q, %v: %v, %v", got, found, a, b)
		}
		for rule := range 3 {
			want, there := firstOf(most, func(l []int) bool { return walk(a, l) == rule }, a)
			got, found := auto.First(a, rule)
			if there && (got != want || !found) || !there && found && len(points.Points(got)) <= most {
				t.Fatalf("First of %d is %q, %v, want %q, %v: %v", rule, got, found, want, there, a)
			}
			if found && auto.Run(a, got) != rule || !found && got != "" {
				t.Fatalf("First of %d is %q, %v: %v", rule, got, found, a)
			}
			if found {
				met++
			}
		}
	}
	if met < 200 {
		t.Errorf("only %d texts are met", met)
	}
}

// P36: First, by rules, and the edges.
func TestFirst(t *testing.T) {
	a, err := auto.Rules(readAll(t, "if", "[a-z]+", "[0-9]{3}", "", "if", `[\u{D800}-\u{DFFF}]`, `[\u{DFFF}\u{E001}]x`))
	if err != nil {
		t.Fatal(err)
	}
	for _, c := range []struct {
		rule  int
		want  string
		found bool
	}{
		{0, "if", true}, {1, "a", true}, {2, "000", true}, {3, "", true}, {4, "", false}, {5, "", false}, {6, "\uE001x", true}, {7, "", false},
		{-1, "", false}, {-2, "", false}, {1 << 40, "", false},
	} {
		if s, found := auto.First(a, c.rule); s != c.want || found != c.found {
			t.Errorf("First of %d is %q, %v, want %q, %v", c.rule, s, found, c.want, c.found)
		}
	}
	for _, c := range []struct{ pattern, want string }{
		{"[b-d]{2}&~(bb)", "bc"}, {"zz|y|x", "x"}, {"~(.?)&[^]", "\n"}, {".*b.*a|c{3}", "ba"}, {"c{50}", strings.Repeat("c", 50)}, {"[^a]", "\x00"}, {`[\u{D800}-\u{10FFFF}]`, "\uE000"},
	} {
		if s, found := auto.First(of(t, c.pattern), 0); s != c.want || !found {
			t.Errorf("First of %q is %q, %v, want %q", c.pattern, s, found, c.want)
		}
	}
	if s, found := auto.First(api.Auto{}, 0); s != "" || found {
		t.Errorf("without states: %q, %v", s, found)
	}
}

// P35: as many pairs of states as there can be.
func TestApartOfManyStates(t *testing.T) {
	const most = api.MaxStates
	if s, found := auto.Apart(ring(most), ring(most-1)); !found || len(s) != most-1 {
		t.Errorf("%d, %v", len(s), found)
	}
	all := func(a api.Auto) api.Auto {
		for i := range a.States {
			a.States[i].Rule = 0
		}
		return a
	}
	if s, found := auto.Apart(all(ring(most)), all(ring(most-1))); found || s != "" {
		t.Errorf("%d, %v", len(s), found)
	}
	last := all(ring(most))
	last.States[most-1].Rule = 1
	if s, found := auto.Apart(last, ring(1)); !found || len(s) != most-1 {
		t.Errorf("%d, %v", len(s), found)
	}
}
