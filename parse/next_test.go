package parse_test

import (
	"slices"
	"testing"

	"grammarsmith/api"
	"grammarsmith/parse"
)

// P72: what may stand behind, by hand; the end is the last number.
func TestNext(t *testing.T) {
	for _, c := range []struct {
		prods []string
		in    string
		want  []int
	}{
		{[]string{"S"}, "", []int{0}},
		{[]string{"Sa"}, "", []int{0}},
		{[]string{"Sa"}, "a", []int{1}},
		{[]string{"Sa"}, "aa", nil}, // behind an error
		{[]string{"Sa"}, "aaa", nil},
		{[]string{"SaSb", "S"}, "", []int{0, 2}},
		{[]string{"SaSb", "S"}, "a", []int{0, 1}},
		{[]string{"SaSb", "S"}, "ab", []int{2}},
		{[]string{"SaSb", "S"}, "aab", []int{1}},
		{[]string{"SaSb", "S"}, "aabb", []int{2}},
		{[]string{"SaSb", "S"}, "b", nil},
		{[]string{"SaSb", "S"}, "aba", nil},
		{[]string{"SaSb", "S"}, "aabbb", nil},
		{[]string{"SaSb", "S"}, "!", nil},
		{[]string{"SaSb", "S"}, "a!", nil},
		{[]string{"SaSb", "S"}, "ac", nil}, // c is Terms itself
		{[]string{"SaA", "SbAc", "Ab"}, "", []int{0, 1}},
		{[]string{"SaA", "SbAc", "Ab"}, "ab", []int{3}}, // LALR reduces ahead of c, too, and then c can not stand
		{[]string{"SaA", "SbAc", "Ab"}, "bb", []int{2}}, // and likewise the end
		{[]string{"SaA", "SbAc", "Ab"}, "abc", nil},
		{[]string{"SABCd", "Aa", "A", "Bb", "B", "Cc", "C"}, "", []int{0, 1, 2, 3}},
		{[]string{"SABCd", "Aa", "A", "Bb", "B", "Cc", "C"}, "a", []int{1, 2, 3}},
		{[]string{"SABCd", "Aa", "A", "Bb", "B", "Cc", "C"}, "b", []int{2, 3}},
		{[]string{"SABCd", "Aa", "A", "Bb", "B", "Cc", "C"}, "ac", []int{3}},
		{[]string{"SABCd", "Aa", "A", "Bb", "B", "Cc", "C"}, "abcd", []int{4}},
	} {
		g := of(t, c.prods...)
		for _, m := range makers {
			if got := parse.Next(g, made(t, m, g), terms(c.in)); !slices.Equal(got, c.want) {
				t.Errorf("%s of %q: behind %q: %v, want %v", m.name, c.prods, c.in, got, c.want)
			}
		}
	}
}

// P72: reductions that end in an error: no state, too few trees, nothing done, no end.
func TestNextBehindReductions(t *testing.T) {
	g := of(t, "SA", "A", "Aaa", "Bd", "Bc", "Se", "Sb")
	for _, c := range []struct {
		name string
		rows []string
		in   string
		want []int
	}{
		// a b c d e, the end; gotos S A B
		{"no terminals", []string{">0 . >0 . >0 .|. . ."}, "", []int{0, 2, 4}},
		{"each kind of end", []string{"/1 /2 /3 /4 >0 /1|. 1 .", ". . . . >0 /0|2 . .", ". . . . . !|. . ."}, "", []int{4}},
		{"accepted behind reductions", []string{">0 . . . . /1|2 1 .", ". . . . >0 /0|2 . .", ". . . . . !|. . ."}, "", []int{0, 5}},
		{"accepted with too many trees", []string{">0 . . . . /1|2 1 .", ". . . . >0 /0|2 . .", ". . . . . !|. . ."}, "a", []int{0}},
		{"shifted behind reductions", []string{"/1 /1 /1 /1 /1 /1|. 1 .", ">0 . >1 /1 . .|. 0 ."}, "", []int{0, 2}},
		{"too few trees", []string{">1 /2 . . . .|. . .", ">1 /2 >0 . . .|. 2 .", ". >1 . . . .|. . ."}, "a", []int{0, 2}},
		{"as many trees", []string{">1 /2 . . . .|. 2 .", ">1 /2 >0 . . .|. 2 .", ". >1 . . . .|. . ."}, "aa", []int{0, 1, 2}},
		{"behind an error in reductions", []string{">1 . . . . .|. . .", ">1 /2 >0 . . .|. 2 .", ". >1 . . . .|. . ."}, "ab", nil},
	} {
		x := fitting(t, g, c.rows...)
		if got := parse.Next(g, x, terms(c.in)); !slices.Equal(got, c.want) {
			t.Errorf("%s: %v, want %v", c.name, got, c.want)
		}
	}
}

// P72: with a table that does not fit nothing may stand.
func TestNextDoesNotFit(t *testing.T) {
	g := of(t, "SaSb", "S")
	x := made(t, makers[0], g)
	checkNot(t, "no table", g, api.Table{})
	x.Gotos[0][0] = -2
	checkNot(t, "a goto", g, x)
	x.Gotos[0][0] = -1
	if got := parse.Next(g, x, nil); !slices.Equal(got, []int{0}) {
		t.Errorf("without a way by S: %v", got)
	}
	g.Start = 1
	checkNot(t, "a grammar", g, x)
}

// P72: Next says of Parse what a terminal that is none, put behind, shows.
func TestNextByParse(t *testing.T) {
	d := &dice{seed: 73}
	seen := map[bool]int{}
	for range 300 {
		g, x := d.read()
		for range 10 {
			in := d.list(g, 6)
			next := parse.Next(g, x, in)
			for term := range g.Terms {
				_, err := parse.Parse(g, x, append(slices.Clone(in), term, g.Terms))
				fault, is := err.(*api.Fault)
				if !is || (fault.At > len(in)) != slices.Contains(next, term) {
					t.Fatalf("%v by %+v of %+v: %d: %v, Next %v", in, x, g, term, err, next)
				}
				seen[fault.At > len(in)]++
			}
			_, err := parse.Parse(g, x, in)
			if (err == nil) != slices.Contains(next, g.Terms) || !slices.IsSorted(next) {
				t.Fatalf("%v by %+v of %+v: %v, Next %v", in, x, g, err, next)
			}
		}
	}
	if min(seen[true], seen[false]) < 500 {
		t.Errorf("seen: %v", seen)
	}
}
