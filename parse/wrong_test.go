package parse_test

import (
	"math"
	"slices"
	"testing"

	"grammarsmith/api"
	"grammarsmith/parse"
)

// P71: ErrEnd where the table says nothing: at the first terminal, one in the middle, the last one, the end.
func TestNoSentence(t *testing.T) {
	for _, c := range []struct {
		prods []string
		in    string
		at    int
	}{
		{[]string{"Sab"}, "", 0},
		{[]string{"Sab"}, "b", 0},
		{[]string{"Sab"}, "ba", 0},
		{[]string{"Sab"}, "a", 1},
		{[]string{"Sab"}, "aa", 1},
		{[]string{"Sab"}, "aab", 1},
		{[]string{"Sab"}, "aba", 2},
		{[]string{"Sab"}, "abab", 2},
		{[]string{"S"}, "", -1},
		{[]string{"SaSb", "S"}, "b", 0},
		{[]string{"SaSb", "S"}, "aab", 3},
		{[]string{"SaSb", "S"}, "aabba", 4},
		{[]string{"SaSb", "S"}, "aabbb", 4},
		{[]string{"SaSb", "S"}, "aabab", 3},
		{[]string{"SaSb", "S"}, "aabb", -1},
		{[]string{"SaA", "SbAc", "Ab"}, "abc", 2}, // in LALR b is an A ahead of c, too; then c can not stand
		{[]string{"SaA", "SbAc", "Ab"}, "bb", 2},
		{[]string{"SaA", "SbAc", "Ab"}, "bbc", -1},
	} {
		g := of(t, c.prods...)
		for _, m := range makers {
			x, name := made(t, m, g), m.name+" of "+c.in
			if c.at >= 0 {
				checkFault(t, name, g, x, terms(c.in), api.ErrEnd, c.at)
			} else if r, err := parse.Parse(g, x, terms(c.in)); err != nil || !parse.Sound(g, r, terms(c.in)) {
				t.Errorf("%s: %v", name, err)
			}
		}
	}
}

// P71: ErrEnd at a terminal that is none of the grammar's, if the parser comes so far.
func TestNoTerminal(t *testing.T) {
	g := of(t, "SaSb", "S")
	for _, term := range []int{-1, -2, 2, 3, 1 << 32, math.MinInt, math.MaxInt} {
		for _, m := range makers {
			x := made(t, m, g)
			for at := range 5 {
				in := slices.Insert(terms("aabb"), at, term)
				checkFault(t, m.name, g, x, in, api.ErrEnd, at)
				checkFault(t, m.name, g, x, append(in, term), api.ErrEnd, at)
				if got := parse.Next(g, x, in); len(got) != 0 {
					t.Errorf("%s: Next of %v: %v", m.name, in, got)
				}
			}
			checkFault(t, m.name, g, x, []int{0, 1, 0, term}, api.ErrEnd, 2)
		}
	}
	none := of(t, "S")
	x := made(t, makers[0], none)
	if none.Terms != 0 {
		t.Fatal("there are terminals")
	}
	checkTree(t, "no terminals", none, x, nil, "(0)")
	for _, term := range []int{-1, 0, 1} {
		checkFault(t, "no terminals", none, x, []int{term}, api.ErrEnd, 0)
	}
	// Ahead of a terminal that is none nothing is done, so also nothing that would be wrong.
	g = of(t, "Saa")
	x = fitting(t, g, "/0 /0|0")
	checkFault(t, "reductions", g, x, terms("a"), api.ErrRule, 0)
	checkFault(t, "reductions", g, x, []int{1}, api.ErrEnd, 0)
	checkFault(t, "reductions", g, x, []int{-1}, api.ErrEnd, 0)
}

// P71: ErrSyntax has no place, and stands ahead of all others.
func TestDoesNotFit(t *testing.T) {
	g := of(t, "SaSb", "S")
	x := made(t, makers[0], g)
	x.Acts = x.Acts[:len(x.Acts)-1]
	for _, in := range [][]int{nil, {}, {0, 1}, {-1}, {9}, {1}} {
		if r, err := parse.Parse(g, x, in); r != nil || err != api.ErrSyntax {
			t.Errorf("%v: %s, %v", in, parse.Show(r), err)
		}
	}
}

// P71: ErrRule where there are not as many trees as the production has symbols.
func TestTooFewTrees(t *testing.T) {
	g := of(t, "S", "Sa", "Saa", "Sbbb", "Saaaaaaaaaaaaaaaaaaaa")
	for i, prod := range []string{"0", "1", "2", "3", "4"} {
		x, symbols := fitting(t, g, ">0 /"+prod+" /"+prod+"|1", ". . !|."), len(g.Prods[i].Right)
		for n := range 25 {
			in := slices.Repeat([]int{0}, n)
			switch {
			case n < symbols:
				checkFault(t, prod, g, x, in, api.ErrRule, n)
				checkFault(t, prod, g, x, append(in, 1, 0), api.ErrRule, n)
			case n > symbols: // at ActAccept there are too many
				checkFault(t, prod, g, x, in, api.ErrRule, n)
			default:
				r, err := parse.Parse(g, x, in)
				if err != nil || r.Prod != i || len(r.Kids) != n {
					t.Errorf("%d of production %d: %s, %v", n, i, parse.Show(r), err)
				}
			}
		}
	}
}

// P71: ErrRule where the name leads to no state: what counts is the state ahead of the trees, and the production's Left.
func TestNowhere(t *testing.T) {
	g := of(t, "SA", "Aa", "Bb", "A")
	for _, c := range []struct {
		name string
		rows []string
		in   string
		at   int
	}{
		{"at the first", []string{"/3 . .|1 . 1", ". . !|1 1 1"}, "a", 0},
		{"at the end of nothing", []string{". . /3|1 . 1", ". . !|1 1 1"}, "", 0},
		{"in the middle", []string{">1 . .|2 . 2", ". /1 .|2 2 2", ". . !|. . ."}, "ab", 1},
		{"at the end", []string{">1 . .|2 . 2", ". . /1|2 2 2", ". . !|. . ."}, "a", 1},
		{"by the second reduction", []string{">1 . .|. 2 .", ". . /1|2 2 2", ". . /0|2 2 2"}, "a", 1},
	} {
		checkFault(t, c.name, g, fitting(t, g, c.rows...), terms(c.in), api.ErrRule, c.at)
	}
	x := fitting(t, g, ">1 . .|3 2 .", ". . /1|. . .", ". . /0|. . .", ". . !|. . .")
	checkTree(t, "the states ahead alone lead", g, x, terms("a"), "(0 (1 0))")
}

// P71: ErrRule at ActAccept, if there is not one tree, a node of Start.
func TestNotAccepted(t *testing.T) {
	g := of(t, "Sa", "A", "S")
	for _, c := range []struct {
		name string
		rows []string
		in   string
		want string // "": ErrRule at the end
	}{
		{"no tree", []string{">0 !|. ."}, "", ""},
		{"a leaf", []string{">0 !|. ."}, "a", ""},
		{"two leaves", []string{">0 !|. ."}, "aa", ""},
		{"a node of another name", []string{". /1|. 1", ". !|. ."}, "", ""},
		{"a node of Start", []string{". /2|1 .", ". !|. ."}, "", "(2)"},
		{"a node of Start with kids", []string{">1 .|2 .", ". /0|. .", ". !|. ."}, "a", "(0 0)"},
		{"two nodes of Start", []string{". /2|1 .", ". /2|2 .", ". !|. ."}, "", ""},
		{"a leaf, a node of Start", []string{">0 /2|1 .", ". !|. ."}, "a", ""},
		{"a node of Start, a leaf", []string{"/2 .|1 .", ">1 !|. ."}, "a", ""},
		{"a node of Start, one of another", []string{". /2|1 .", ". /1|. 2", ". !|. ."}, "", ""},
		{"one of another, a node of Start", []string{". /1|. 1", ". /2|2 .", ". !|. ."}, "", ""},
		{"three", []string{">0 /0|1 .", ". !|. ."}, "aaa", ""},
	} {
		x := fitting(t, g, c.rows...)
		if c.want == "" {
			checkFault(t, c.name, g, x, terms(c.in), api.ErrRule, len(c.in))
		} else {
			checkTree(t, c.name, g, x, terms(c.in), c.want)
		}
		if end := slices.Contains(parse.Next(g, x, terms(c.in)), g.Terms); end != (c.want != "") {
			t.Errorf("%s: Next has the end: %v", c.name, end)
		}
	}
	g.Start = 1
	checkTree(t, "another Start", g, fitting(t, g, ". /1|. 1", ". !|. ."), nil, "(1)")
	checkFault(t, "another Start", g, fitting(t, g, ". /2|1 .", ". !|. ."), nil, api.ErrRule, 0)
}
