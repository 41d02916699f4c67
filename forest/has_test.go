package forest_test

import (
	"math"
	"slices"
	"testing"

	"grammarsmith/api"
	"grammarsmith/forest"
)

// P80: sentences by hand, and with what they go on; a dot is the end.
func TestHasAndBegins(t *testing.T) {
	for _, c := range []struct {
		prods, in string
		has       bool
		next      string
	}{
		{"SaSb S", "", true, "a."},
		{"SaSb S", "a", false, "ab"},
		{"SaSb S", "ab", true, "."}, // a sentence that can not go on
		{"SaSb S", "aab", false, "b"},
		{"SaSb S", "aabb", true, "."},
		{"SaSb S", "b", false, ""}, // a beginning of no sentence
		{"SaSb S", "aba", false, ""},
		{"SaSb S", "abb", false, ""},
		{"SaSb S", "aabbb", false, ""},
		{"SSaS Sb", "", false, "b"},
		{"SSaS Sb", "b", true, "a."}, // a sentence that can go on
		{"SSaS Sb", "ba", false, "b"},
		{"SSaS Sb", "bab", true, "a."},
		{"SSaS Sb", "bb", false, ""},
		{"Sa Sab", "a", true, "b."},
		{"Sa Sab", "ab", true, "."},
		{"SSa Sa", "aaa", true, "a."}, // to the left, to the right, in the middle
		{"SaS Sa", "aaa", true, "a."},
		{"SaSa Sa", "aaa", true, "a."},
		{"SaSa Sa", "aa", false, "a"},
		{"SABCd A Aa B Bb C Cc", "", false, "abcd"}, // through names that have the empty sentence
		{"SABCd A Aa B Bb C Cc", "a", false, "bcd"},
		{"SABCd A Aa B Bb C Cc", "c", false, "d"},
		{"SABCd A Aa B Bb C Cc", "bd", true, "."},
		{"SABCd A Aa B Bb C Cc", "ba", false, ""},
		{"SAB A Aa B Bb", "", true, "ab."},
		{"SAB A Aa B Bb", "a", true, "b."},
		{"SASB S A Aa B Bb", "", true, "ab."}, // it stands within itself beside them
		{"SASB S A Aa B Bb", "abab", false, ""},
		{"SASB S A Aa B Bb", "aabbb", true, "b."},
		{"SS Sa", "", false, "a"}, // it stands within itself alone
		{"SS Sa", "a", true, "."},
		{"SA AB BS Ba", "a", true, "."},
		{"S", "", true, "."},
		{"SA A", "", true, "."},
	} {
		g := of(t, c.prods)
		if got := forest.Has(g, terms(c.in)); got != c.has {
			t.Errorf("Has of %q of %q: %v", c.in, c.prods, got)
		}
		if got := letters(g, forest.Begins(g, terms(c.in))); got != c.next {
			t.Errorf("Begins of %q of %q: %q, want %q", c.in, c.prods, got, c.next)
		}
	}
}

// P80: what can never be brought to an end does not count, nor does what Start never comes to.
func TestNamesOfNoUse(t *testing.T) {
	for _, c := range []struct {
		prods, in string
		count     string
		next      string
	}{
		{"Sa SaA AbA", "", "0", "a"}, // A has no tree
		{"Sa SaA AbA", "a", "1", "."},
		{"Sa SaA AbA", "ab", "0", ""},
		{"Sa SaA AbA", "abb", "0", ""},
		{"SaA SB Ab AcB BdB", "", "0", "a"},
		{"SaA SB Ab AcB BdB", "a", "0", "b"}, // behind c there is no end
		{"SaA SB Ab AcB BdB", "ac", "0", ""},
		{"SaA SB Ab AcB BdB", "ab", "1", "."},
		{"SAB Sb A Aa B BaBC", "", "1", "ab."}, // C has no production
		{"SAB Sb A Aa B BaBC", "a", "1", "."},
		{"SAbC Sa A", "", "0", "a"}, // what follows has no tree: also what is ahead of it is of no use
		{"SAbC Sa A", "b", "0", ""},
		{"SAC Sa AbA", "", "0", "a"},
		{"Sa Ab AS BA", "", "0", "a"}, // Start never comes to A and B
		{"Sa Ab AS BA", "b", "0", ""},
		{"Sa Ab AS BA", "a", "1", "."},
		{"Sa AA Aa", "a", "1", "."}, // there A would have no end of trees
		{"SSA Sa", "a", "1", "."},   // S would stand within itself, if A had a tree
		{"SSA Sa SAS AA", "a", "1", "."},
	} {
		g := of(t, c.prods)
		a := ask(g, terms(c.in))
		if a.Count != c.count || a.Has != (c.count != "0") || letters(g, a.Begins) != c.next {
			t.Errorf("%q of %q: %s, want %s and to go on with %q", c.in, c.prods, a.text(), c.count, c.next)
		}
		if len(a.Trees) != int(c.count[0]-'0') {
			t.Errorf("%q of %q: %v", c.in, c.prods, shown(a.Trees))
		}
	}
}

// P80 to P82: a Start that has no tree.
func TestStartWithoutTree(t *testing.T) {
	for _, prods := range []string{"SS", "SaS", "SA", "SAa AS Ba", "SaA SBb ASB BAS Ca", "Aa", ""} {
		g := of(t, prods)
		g.Terms = max(g.Terms, 1)
		for _, in := range [][]int{nil, {0}, {0, 0}, {1}} {
			checkNothing(t, prods, g, in)
		}
	}
	checkNothing(t, "no productions", api.Grammar{Names: 1}, nil)
	checkNothing(t, "no terminals", api.Grammar{Names: 1}, []int{0})
}

// P80: Start need not be the name 0.
func TestOtherStart(t *testing.T) {
	g := of(t, "Sb ASa")
	for start, c := range []struct{ in, first, tree string }{{"b", "b", "(0 0)"}, {"ba", "b", "(1 (0 0) 1)"}} {
		g.Start = start
		for _, in := range []string{"b", "ba"} {
			if in == c.in {
				if a := ask(g, terms(in)); !a.Has || a.Count != "1" || !slices.Equal(shown(a.Trees), []string{c.tree}) || letters(g, a.Begins) != "." {
					t.Errorf("Start %d: %q: %s", start, in, a.text())
				}
			} else if forest.Has(g, terms(in)) {
				t.Errorf("Start %d has %q", start, in)
			}
		}
		if got := letters(g, forest.Begins(g, nil)); got != c.first {
			t.Errorf("Start %d begins with %q", start, got)
		}
	}
}

// P80 to P82: no sentence has a terminal that is none of the grammar's, and none begins with one.
func TestNoTerminal(t *testing.T) {
	g := of(t, "SaSb S SSS Sa")
	for _, term := range []int{-1, -2, -3, g.Terms, g.Terms + 1, 64, 1 << 32, math.MinInt, math.MaxInt} {
		for at := range 5 {
			checkNothing(t, "a terminal that is none", g, slices.Insert(terms("aabb"), at, term))
		}
		checkNothing(t, "alone", g, []int{term})
	}
	bare := of(t, "S SSS")
	for _, term := range []int{-1, 0, 1} {
		checkNothing(t, "no terminals", bare, []int{term})
	}
	if a := ask(bare, nil); !a.Has || !slices.Equal(a.Begins, []int{0}) || a.Count != "many" || len(a.Trees) != 1 {
		t.Errorf("no terminals: %s", a.text())
	}
}

// P80 to P82: as many terminals as MaxWords, and one more.
func TestMaxWords(t *testing.T) {
	right, left, pairs := of(t, "SaS Sa"), of(t, "SSa Sa Sb"), of(t, "SaSb S")
	most := row(0, api.MaxWords)
	for name, g := range map[string]api.Grammar{"right": right, "left": left} {
		for _, length := range []int{1, api.MaxWords - 1, api.MaxWords} {
			in := row(0, length)
			a := ask(g, in)
			if !a.Has || a.Count != "1" || len(a.Trees) != 1 || letters(g, a.Begins) != "a." {
				t.Errorf("%s: %d terminals: %s", name, length, a.text())
			}
		}
		for _, length := range []int{1, 2, 4, 5, 100, 1000} {
			checkNothing(t, name, g, append(slices.Clone(most), row(0, length)...))
		}
	}
	half := append(row(0, api.MaxWords/2), row(1, api.MaxWords/2)...)
	if a := ask(pairs, half); !a.Has || a.Count != "1" || len(a.Trees) != 1 || letters(pairs, a.Begins) != "." {
		t.Errorf("pairs: %s", a.text())
	}
	checkNone(t, "only the first half", pairs, most, "ab")
	checkNone(t, "all but the last", pairs, half[:api.MaxWords-1], "b")
	checkNone(t, "another last one", right, append(row(0, api.MaxWords-1), -1), "")
	checkNothing(t, "too many that are none", right, row(-1, api.MaxWords+1))
	empty := of(t, "S SAS A")
	checkNothing(t, "too many for the empty sentence", empty, make([]int, api.MaxWords+1))
}

// P80 to P82: of a grammar that is not valid nothing is answered.
func TestNotValid(t *testing.T) {
	for name, spoil := range map[string]func(*api.Grammar){
		"Start":          func(g *api.Grammar) { g.Start = 1 },
		"Start below 0":  func(g *api.Grammar) { g.Start = -1 },
		"no names":       func(g *api.Grammar) { g.Names = 0 },
		"names below 0":  func(g *api.Grammar) { g.Names = math.MinInt },
		"too many names": func(g *api.Grammar) { g.Names = api.MaxSyms + 1 },
		"far too many":   func(g *api.Grammar) { g.Names = math.MaxInt },
		"Terms":          func(g *api.Grammar) { g.Terms = api.MaxSyms + 1 },
		"Terms below 0":  func(g *api.Grammar) { g.Terms = -1 },
		"far more Terms": func(g *api.Grammar) { g.Terms = math.MaxInt },
		"Level":          func(g *api.Grammar) { g.Prods[1].Level = 1 },
		"Levels":         func(g *api.Grammar) { g.Levels = []int{0} },
		"a level":        func(g *api.Grammar) { g.Levels = []int{0, 1} },
		"Sides":          func(g *api.Grammar) { g.Sides = []int{0} },
		"Left":           func(g *api.Grammar) { g.Prods = append(g.Prods, api.Prod{Left: -1}) },
		"Right":          func(g *api.Grammar) { g.Prods = append(g.Prods, api.Prod{Right: []int{2}}) },
		"a name":         func(g *api.Grammar) { g.Prods = append(g.Prods, api.Prod{Right: []int{-2}}) },
		"a long Right":   func(g *api.Grammar) { g.Prods = append(g.Prods, api.Prod{Right: row(0, api.MaxRight+1)}) },
		"Prods":          func(g *api.Grammar) { g.Prods = append(g.Prods, make([]api.Prod, api.MaxProds)...) },
		"all":            func(g *api.Grammar) { *g = api.Grammar{} },
	} {
		bad := of(t, "SaSb S")
		spoil(&bad)
		for _, in := range [][]int{nil, {}, {0, 1}, {0}, {-1}, row(0, api.MaxWords+1)} {
			checkNothing(t, name, bad, in)
		}
	}
}

// What stands at the top of the chapter: levels and sides do not matter.
func TestLevelsDoNotMatter(t *testing.T) {
	bare := of(t, "SSaS SSbS Sc S")
	for _, in := range []string{"cacac", "cacbc", "cbcac", "aab", "c", ""} {
		want := ask(bare, terms(in)).text()
		for _, sides := range [][]int{{api.ToLeft, api.ToRight}, {api.ToNone, api.ToNone}, {api.ToRight, api.ToLeft}} {
			g := of(t, "SSaS SSbS Sc S")
			g.Levels, g.Sides = []int{1, 2, 0}, sides
			g.Prods[0].Level, g.Prods[1].Level = 1, 2
			if got := ask(g, terms(in)).text(); got != want {
				t.Errorf("%q with %v: %s, want %s", in, sides, got, want)
			}
		}
	}
}

// P80: of many grammars what the model says.
func TestHasAndBeginsByModel(t *testing.T) {
	d, seen := &dice{seed: 80}, map[string]int{}
	for range 6000 {
		g := d.grammar()
		var in []int
		// Beginnings of sentences are rare: so they are made terminal by terminal.
		for range 6 {
			want := modelBegins(g, in)
			if got := forest.Begins(g, in); !slices.Equal(got, want) {
				t.Fatalf("Begins of %v of %+v: %v, want %v", in, g, got, want)
			}
			end := slices.Contains(want, g.Terms)
			if got := forest.Has(g, in); got != end {
				t.Fatalf("Has of %v of %+v: %v", in, g, got)
			}
			switch {
			case end && len(want) > 1:
				seen["a sentence that goes on"]++
			case end:
				seen["a sentence that does not"]++
			case len(want) > 0:
				seen["a beginning"]++
			default:
				seen["nothing"]++
			}
			next := d.next(g.Terms + 1)
			if len(want) > 0 && d.next(5) > 0 {
				next = want[d.next(len(want))]
			}
			in = append(in, next)
			if next == g.Terms && d.next(5) > 0 {
				break
			}
		}
	}
	for _, kind := range []string{"a sentence that goes on", "a sentence that does not", "a beginning", "nothing"} {
		if seen[kind] < 500 {
			t.Errorf("%s: only %d", kind, seen[kind])
		}
	}
}
