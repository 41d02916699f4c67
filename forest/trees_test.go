package forest_test

import (
	"math"
	"slices"
	"strings"
	"testing"

	"grammarsmith/api"
	"grammarsmith/forest"
	"grammarsmith/parse"
)

// P82: trees by hand, all that are plain, in order.
func TestTrees(t *testing.T) {
	for _, c := range []struct{ prods, in, want string }{
		{"SaSb S", "", "(1)"},
		{"SaSb S", "aabb", "(0 0 (0 1 (1) 2) 3)"}, // Tokens are the leaves' numbers
		{"SaSb S", "abb", ""},
		{"SSaS Sb", "babab", "(0 (1 0) 1 (0 (1 2) 3 (1 4))), (0 (0 (1 0) 1 (1 2)) 3 (1 4))"},
		{"Sa Sa Sa", "a", "(0 0), (1 0), (2 0)"}, // by productions
		{"SA Sa Aa", "a", "(0 (2 0)), (1 0)"},
		{"Sa SA Aa", "a", "(0 0), (1 (2 0))"},
		{"Aa SA Sa", "a", "(1 (0 0)), (2 0)"},
		{"SAA A Aa Aaa", "aa", "(0 (1) (3 0 1)), (0 (2 0) (2 1)), (0 (3 0 1) (1))"},
		{"SAA Aaa Aa A", "aa", "(0 (3) (1 0 1)), (0 (2 0) (2 1)), (0 (1 0 1) (3))"}, // fewer leaves go ahead of lower productions
		{"SAb Aa Aa AB Ba", "ab", "(0 (1 0) 1), (0 (2 0) 1), (0 (3 (4 0)) 1)"},      // of as many leaves by productions
		{"SAA Aa Aa", "aa", "(0 (1 0) (1 1)), (0 (1 0) (2 1)), (0 (2 0) (1 1)), (0 (2 0) (2 1))"},
		{"SaAA A Aa ABB B Ba", "aa", "(0 0 (1) (2 1)), (0 0 (1) (3 (4) (5 1))), (0 0 (1) (3 (5 1) (4))), (0 0 (3 (4) (4)) (2 1)), (0 0 (3 (4) (4)) (3 (4) (5 1))), (0 0 (3 (4) (4)) (3 (5 1) (4))), " +
			"(0 0 (2 1) (1)), (0 0 (2 1) (3 (4) (4))), (0 0 (3 (4) (5 1)) (1)), (0 0 (3 (4) (5 1)) (3 (4) (4))), (0 0 (3 (5 1) (4)) (1)), (0 0 (3 (5 1) (4)) (3 (4) (4)))"},
		{"SAAA A A", "", "(0 (1) (1) (1)), (0 (1) (1) (2)), (0 (1) (2) (1)), (0 (1) (2) (2)), (0 (2) (1) (1)), (0 (2) (1) (2)), (0 (2) (2) (1)), (0 (2) (2) (2))"},
		{"SABc ABb Aa Ba Bb", "abc", "(0 (2 0) (4 1) 2)"},
	} {
		checkTrees(t, c.prods, c.in, c.want)
	}
}

// checkTrees asks for all plain trees, with a comma between.
func checkTrees(t *testing.T, prods, in, want string) {
	t.Helper()
	g := of(t, prods)
	l := forest.Trees(g, terms(in), 1000)
	if got := strings.Join(shown(l), ", "); got != want {
		t.Errorf("%q of %q: %s, want %s", in, prods, got, want)
	}
	for _, r := range l {
		if !parse.Sound(g, r, terms(in)) {
			t.Errorf("%q of %q: %s is not sound", in, prods, parse.Show(r))
		}
	}
}

// P82: plain trees, where there is no end of trees.
func TestPlainTrees(t *testing.T) {
	for _, c := range []struct{ prods, in, want string }{
		{"SS Sa", "a", "(1 0)"},
		{"SA Sa AS Ab", "a", "(1 0)"},
		{"SA Sa AS Aa", "a", "(0 (3 0)), (1 0)"},
		{"SA AS ASa Aa", "a", "(0 (3 0))"},
		{"SA AS ASa Aa", "aa", "(0 (2 (0 (3 0)) 1))"},                                                     // S within S, A within A, with fewer leaves
		{"SA SB AS AB Aa BA BS Bb", "a", "(0 (4 0)), (1 (5 (4 0)))"},                                      // A within B, B not within A
		{"SA SB AB AS Aa BA BS Ba", "a", "(0 (2 (7 0))), (0 (4 0)), (1 (5 (4 0))), (1 (7 0))"},            // the same names by other ways
		{"SAB Sa SB AB A BS B Bb", "b", "(0 (3 (6)) (7 0)), (0 (4) (7 0)), (0 (3 (7 0)) (6)), (2 (7 0))"}, // S can not stand in B
		{"SSS Sa S", "", "(2)"},
		{"SSS Sa S", "a", "(1 0)"},
		{"SSS Sa S", "aa", "(0 (1 0) (1 1))"},
		{"SSS Sa S", "aaa", "(0 (1 0) (0 (1 1) (1 2))), (0 (0 (1 0) (1 1)) (1 2))"},
		{"SSaS S SS", "a", "(0 (1) 0 (1))"}, // S without leaves within S with leaves
		{"SSaS S SS", "aa", "(0 (1) 0 (0 (1) 1 (1))), (0 (0 (1) 0 (1)) 1 (1))"},
		{"SAB A AB B BA", "", "(0 (1) (3)), (0 (1) (4 (1))), (0 (2 (3)) (3)), (0 (2 (3)) (4 (1)))"},           // nodes without leaves beside one another
		{"SAaB A AB B BA", "a", "(0 (1) 0 (3)), (0 (1) 0 (4 (1))), (0 (2 (3)) 0 (3)), (0 (2 (3)) 0 (4 (1)))"}, // and at another place
		{"SASB Sa A AS BA B", "a", "(1 0)"},
		{"SA AaAb AA AB B BA", "ab", "(0 (1 0 (3 (4)) 1))"},                                      // A without leaves within A with leaves, through B
		{"SAb AA ABB Aa B BA Ba", "ab", "(0 (2 (4) (6 0)) 1), (0 (2 (6 0) (4)) 1), (0 (3 0) 1)"}, // A without leaves can not stand in B, either
		{"SAS Sa A AS", "", ""},
		{"SAS SA Sa A AS", "", "(1 (3))"},
	} {
		checkTrees(t, c.prods, c.in, c.want)
	}
}

// P82: a ring has no more than one plain tree of a sentence, by all names once; where each name leads to each, there is one for each way.
func TestPlainTreesOfRings(t *testing.T) {
	for _, names := range []int{1, 2, 7, api.MaxSyms} {
		g := ring(names)
		l := forest.Trees(g, []int{0}, 9)
		if len(l) != 1 || !parse.Sound(g, l[0], []int{0}) || countNodes(l[0]) != names+1 {
			t.Errorf("%d names: %v", names, shown(l))
		}
	}
	const names = 5
	g := api.Grammar{Terms: 1, Names: names}
	for a := range names {
		for b := range names {
			g.Prods = append(g.Prods, api.Prod{Left: a, Right: []int{-1 - b}})
		}
	}
	g.Prods = append(g.Prods, api.Prod{Left: names - 1, Right: []int{0}})
	// From the first name to the last one through any of the three others in any order: 1 + 3 + 6 + 6.
	l := forest.Trees(g, []int{0}, 100)
	if len(l) != 16 || countNodes(l[0]) != names+1 || parse.Show(l[15]) != "(4 (25 0))" {
		t.Errorf("each leads to each: %v", shown(l))
	}
}

func countNodes(r *api.Tree) int {
	out := 1
	for _, k := range r.Kids {
		out += countNodes(k)
	}
	return out
}

// P82: the first n, and at most 1,000.
func TestFirstTrees(t *testing.T) {
	binary := of(t, "SSS Sa")
	thousand := api.Grammar{Terms: 1, Names: 2, Prods: []api.Prod{{Right: row(-2, 3)}}}
	for range 10 {
		thousand.Prods = append(thousand.Prods, api.Prod{Left: 1, Right: []int{0}})
	}
	for _, c := range []struct {
		name  string
		g     api.Grammar
		in    []int
		trees int
	}{
		{"none", binary, nil, 0},
		{"one", binary, row(0, 2), 1},
		{"five", binary, row(0, 4), 5},
		{"42", binary, row(0, 6), 42},
		{"a thousand", thousand, row(0, 3), 1000},
		{"more than a thousand", binary, row(0, 10), 1000},
		{"no end", of(t, "SSS Sa S Sa"), row(0, 4), 80}, // 5 ways to part the leaves, each leaf in 2 ways
		{"as many terminals as may be", binary, row(0, api.MaxWords), 1000},
	} {
		all := shown(forest.Trees(c.g, c.in, 1000))
		if len(all) != c.trees {
			t.Errorf("%s: %d trees, want %d", c.name, len(all), c.trees)
		}
		for _, n := range []int{math.MinInt, -1, 0, 1, 2, 4, 5, 6, 41, 42, 43, 999, 1000, 1001, 2000, math.MaxInt} {
			got := shown(forest.Trees(c.g, c.in, n))
			if want := all[:min(max(n, 0), len(all))]; !slices.Equal(got, want) {
				t.Errorf("%s: %d of %d: %d trees", c.name, n, len(all), len(got))
			}
		}
		if sorted := slices.Clone(all); len(slices.Compact(slices.Sorted(slices.Values(sorted)))) != len(all) {
			t.Errorf("%s: a tree is told twice", c.name)
		}
	}
}

// P82: with a thousand trees of many more the order holds, too.
func TestOrderOfManyTrees(t *testing.T) {
	for _, prods := range []string{"SSS Sa", "SSS Sa S", "SSSS SSS Sa Sa", "SaS SSa SSaS S", "SAS SSB AaS BSa A B Sa"} {
		g := of(t, prods)
		in := row(0, 11)
		l := forest.Trees(g, in, 1000)
		for i, r := range l {
			if !parse.Sound(g, r, in) || !isPlain(g, r, nil) {
				t.Errorf("%q: %s", prods, parse.Show(r))
			}
			if i > 0 && compareTrees(l[i-1], r) >= 0 {
				t.Errorf("%q: %s is not ahead of %s", prods, parse.Show(l[i-1]), parse.Show(r))
			}
		}
		if len(l) != 1000 {
			t.Errorf("%q: %d", prods, len(l))
		}
	}
}

// isPlain goes by the chapter's words; above are the nodes in which a tree stands.
func isPlain(g api.Grammar, r *api.Tree, above []*api.Tree) bool {
	if r.Prod < 0 {
		return true
	}
	for _, other := range above {
		if g.Prods[other.Prod].Left == g.Prods[r.Prod].Left && countLeaves(other) == countLeaves(r) {
			return false
		}
	}
	above = append(slices.Clone(above), r)
	return !slices.ContainsFunc(r.Kids, func(k *api.Tree) bool { return !isPlain(g, k, above) })
}

// P82: of many grammars what the model says.
func TestTreesByModel(t *testing.T) {
	d, seen := &dice{seed: 82}, map[string]int{}
	for range 8000 {
		g := d.grammar()
		in := d.list(g, 5)
		want, done := modelTrees(g, in)
		if !done {
			continue
		}
		n := 1 + d.next(1200)
		if got := shown(forest.Trees(g, in, n)); !slices.Equal(got, want[:min(n, 1000, len(want))]) {
			t.Fatalf("%d of %v of %+v: %v, want %v", n, in, g, got, want)
		}
		kind := "one"
		if len(want) > 1 {
			kind = "several"
		}
		if len(want) > 0 && forest.Count(g, in) == "many" {
			kind += ", no end"
		}
		if len(want) > 0 {
			seen[kind]++
		}
	}
	for _, kind := range []string{"one", "several", "one, no end", "several, no end"} {
		if seen[kind] < 150 {
			t.Errorf("%s: only %d", kind, seen[kind])
		}
	}
}
