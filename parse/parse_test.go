package parse_test

import (
	"slices"
	"testing"

	"grammarsmith/api"
	"grammarsmith/parse"
)

// P71: trees by hand, by tables of chapter 6.
func TestTrees(t *testing.T) {
	for _, c := range []struct {
		prods    []string
		in, want string
	}{
		{[]string{"S"}, "", "(0)"},
		{[]string{"Sa"}, "a", "(0 0)"},
		{[]string{"Sabc"}, "abc", "(0 0 1 2)"},
		{[]string{"SaSb", "S"}, "", "(1)"},
		{[]string{"SaSb", "S"}, "ab", "(0 0 (1) 1)"},
		{[]string{"SaSb", "S"}, "aabb", "(0 0 (0 1 (1) 2) 3)"},
		{[]string{"SSa", "Sb"}, "baa", "(0 (0 (1 0) 1) 2)"},
		{[]string{"SaS", "Sb"}, "aab", "(0 0 (0 1 (1 2)))"},
		{[]string{"SA", "AB", "BC", "C"}, "", "(0 (1 (2 (3))))"},
		{[]string{"SABA", "A", "Bb"}, "b", "(0 (1) (2 0) (1))"},
		{[]string{"SABC", "Aa", "A", "B", "Cc", "C"}, "c", "(0 (2) (3) (4 0))"},
		{[]string{"SABC", "Aa", "A", "B", "Cc", "C"}, "a", "(0 (1 0) (3) (5))"},
		{[]string{"SAaA", "SA", "AbA", "Ac"}, "bcac", "(0 (2 0 (3 1)) 2 (3 3))"},
	} {
		g := of(t, c.prods...)
		for _, m := range makers {
			checkTree(t, m.name, g, made(t, m, g), terms(c.in), c.want)
		}
	}
}

// P71, example 6: what LR1 reads LALR need not: it takes c for an A, which can not stand ahead of e behind a.
func TestOneTableReads(t *testing.T) {
	g := of(t, "SaAd", "SbBd", "SaBe", "SbAe", "Ac", "Bc")
	checkTree(t, "LR1", g, made(t, makers[0], g), terms("ace"), "(2 0 (5 1) 2)")
	checkFault(t, "LALR", g, made(t, makers[1], g), terms("ace"), api.ErrEnd, 2)
}

// P71, example 7: levels and sides say how operators are put together.
func TestOperators(t *testing.T) {
	g := of(t, "SSaS", "SSbS", "Sc")
	g.Prods[0].Level, g.Prods[1].Level = 1, 2
	for _, c := range []struct {
		sides    []int
		in, want string
	}{
		{[]int{api.ToLeft, api.ToLeft}, "cacac", "(0 (0 (2 0) 1 (2 2)) 3 (2 4))"},
		{[]int{api.ToRight, api.ToLeft}, "cacac", "(0 (2 0) 1 (0 (2 2) 3 (2 4)))"},
		{[]int{api.ToNone, api.ToLeft}, "cac", "(0 (2 0) 1 (2 2))"},
		{[]int{api.ToLeft, api.ToLeft}, "cacbc", "(0 (2 0) 1 (1 (2 2) 3 (2 4)))"},
		{[]int{api.ToRight, api.ToRight}, "cbcac", "(0 (1 (2 0) 1 (2 2)) 3 (2 4))"},
	} {
		g.Sides, g.Levels = c.sides, []int{1, 2, 0}
		for _, m := range makers {
			checkTree(t, m.name, g, made(t, m, g), terms(c.in), c.want)
		}
	}
	g.Sides = []int{api.ToNone, api.ToLeft}
	checkFault(t, "neither", g, made(t, makers[1], g), terms("cacac"), api.ErrEnd, 3)
}

// P71: Conflicts do not matter; what Acts says is done.
func TestConflictsDoNotMatter(t *testing.T) {
	g := of(t, "SSaS", "Sb")
	for _, m := range makers {
		x := made(t, m, g)
		if len(x.Conflicts) != 1 {
			t.Errorf("%s: conflicts %v", m.name, x.Conflicts)
		}
		for _, conflicts := range [][]api.Conflict{x.Conflicts, nil, {{State: 9, Kind: -1}}} {
			x.Conflicts = conflicts
			checkTree(t, m.name, g, x, terms("babab"), "(0 (1 0) 1 (0 (1 2) 3 (1 4)))")
		}
	}
}

// P71: a leaf is its number, a node its production; no field else is set.
func TestLeavesAndNodes(t *testing.T) {
	g := of(t, "SSA", "SA", "Aa", "Ab")
	x := made(t, makers[0], g)
	in := terms("babbab")
	r, err := parse.Parse(g, x, in)
	if err != nil {
		t.Fatal(err)
	}
	var leaves []int
	for _, k := range all(r) {
		switch {
		case k.Prod == -1 && len(k.Kids) == 0:
			leaves = append(leaves, k.Token)
		case k.Prod < 0 || k.Token != 0 || len(k.Kids) != len(g.Prods[k.Prod].Right):
			t.Errorf("%+v", k)
		}
	}
	if !slices.Equal(leaves, []int{0, 1, 2, 3, 4, 5}) {
		t.Errorf("leaves %v", leaves)
	}
}

// P71: Start need not be the name 0.
func TestOtherStart(t *testing.T) {
	g := of(t, "Sb", "ASa")
	g.Start = 1
	for _, m := range makers {
		x := made(t, m, g)
		checkTree(t, m.name, g, x, terms("ba"), "(1 (0 0) 1)")
		checkFault(t, m.name, g, x, terms("b"), api.ErrEnd, 1)
	}
}

// P71: the table alone says what is done: not what kids a production asks for, nor which states are met once.
func TestTableSaysAll(t *testing.T) {
	g := of(t, "SaAb", "Aa", "A")
	for name, c := range map[string]struct {
		rows     []string
		in, want string
	}{
		"kids of other kinds": {[]string{">0 >0 /0|1 .", ". . !|. ."}, "bab", "(0 0 1 2)"},
		"back in state 0":     {[]string{">1 . !|0 .", ">1 >1 /0|. ."}, "aab", "(0 0 1 2)"},
		"the last trees":      {[]string{">0 . /1|3 1", ". . /2|. 2", ". . /0|. .", ". . !|. ."}, "aa", "(0 0 (1 1) (2))"},
		"nothing, ahead":      {[]string{"/2 >2 .|3 1", ">1 >2 .|. .", ". . /0|. .", ". . !|. ."}, "ab", "(0 (2) 0 1)"},
	} {
		checkTree(t, name, g, fitting(t, g, c.rows...), terms(c.in), c.want)
	}
}

// P71: long lists, to the left and to the right.
func TestLongLists(t *testing.T) {
	const length = 100000
	in := slices.Repeat([]int{0}, length)
	left, right := of(t, "SSa", "S"), of(t, "SAS", "S", "Aa")
	r, err := parse.Parse(left, made(t, makers[1], left), in)
	if err != nil || !parse.Sound(left, r, in) {
		t.Errorf("to the left: %v", err)
	}
	in = in[:api.MaxReduce/2] // all of them are put together at the end
	r, err = parse.Parse(right, made(t, makers[1], right), in)
	if err != nil || !parse.Sound(right, r, in) {
		t.Errorf("to the right: %v", err)
	}
}
