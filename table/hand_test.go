package table_test

import (
	"slices"
	"testing"

	"grammarsmith/api"
)

// byHand is a grammar and what its table is; no states for LALR: they are those of LR1.
type byHand struct {
	what, text string
	lr1, lalr  []string
	clash      [2]string // the conflicts of LR1, and of LALR
}

func (h byHand) check(t *testing.T) {
	t.Helper()
	g := of(t, h.text)
	want := [][]string{h.lr1, h.lalr}
	if h.lalr == nil {
		want[1], h.clash[1] = h.lr1, h.clash[0]
	}
	for i, m := range makers {
		x := made(t, m, g)
		if got := told(g, x); !slices.Equal(got, want[i]) {
			t.Errorf("%s: %s of %q:\n%q, want\n%q", h.what, m.name, h.text, got, want[i])
		}
		if got := clashes(g, x); got != h.clash[i] {
			t.Errorf("%s: %s of %q: conflicts %q, want %q", h.what, m.name, h.text, got, h.clash[i])
		}
	}
}

// P61: what closed sets have, and with which looks.
func TestClosedSets(t *testing.T) {
	for _, h := range []byHand{
		{what: "nothing", text: "S :", lr1: []string{"$/0 0>1", "$!"}},
		{what: "one terminal", text: "S : a", lr1: []string{"a>1 0>2", "$/0", "$!"}},
		{what: "the look is a terminal", text: "S : A b; A : a", lr1: []string{"a>1 0>2 1>3", "b/1", "$!", "b>4", "$/0"}},
		{what: "a name behind may be empty", text: "S : A B; A : a; B : b |",
			lr1: []string{"a>1 0>2 1>3", "b/1 $/1", "$!", "b>4 $/3 2>5", "$/2", "$/0"}},
		{what: "a name behind may not be empty", text: "S : A B; A : a; B : b",
			lr1: []string{"a>1 0>2 1>3", "b/1", "$!", "b>4 2>5", "$/2", "$/0"}},
		{what: "the own look goes on through what may be empty", text: "S : a A; A : B C; B : b | ; C : c |",
			lr1: []string{"a>1 0>2", "b>3 c/3 $/3 1>4 2>5", "$!", "c/2 $/2", "$/0", "c>6 $/5 3>7", "$/4", "$/1"}},
		{what: "a name within itself", text: "S : S a | b", lr1: []string{"b>1 0>2", "a/1 $/1", "a>3 $!", "a/0 $/0"}},
		{what: "a name within itself, by another", text: "S : A a | b; A : S c |",
			lr1: []string{"a/3 b>1 0>2 1>3", "c/1 $/1", "c>4 $!", "a>5", "a/2", "c/0 $/0"}},
		{what: "a name behind itself", text: "S : a S |",
			lr1: []string{"a>1 $/1 0>2", "a>1 $/1 0>3", "$!", "$/0"}},
	} {
		h.check(t)
	}
}

// P62: states in the order in which they are come to; P63: states that are the same but for looks.
func TestStates(t *testing.T) {
	for _, h := range []byHand{
		{what: "terminals in their order, then names in theirs", text: "S : C b | B a | c a | b a; C : a; B : a",
			lr1: []string{"a>1 b>2 c>3 0>4 1>5 2>6", "a/5 b/4", "a>7", "a>8", "$!", "b>9", "a>10", "$/3", "$/2", "$/0", "$/1"}},
		{what: "states that are come to again", text: "S : a S b |",
			lr1:  []string{"a>1 $/1 0>2", "a>3 b/1 0>4", "$!", "a>3 b/1 0>5", "b>6", "b>7", "$/0", "b/0"},
			lalr: []string{"a>1 $/1 0>2", "a>1 b/1 0>3", "$!", "b>4", "b/0 $/0"}},
		{what: "looks of two states", text: "S : A B c; A : B b; B : a |",
			lr1:  []string{"a>1 b/3 0>2 1>3 2>4", "b/2", "$!", "a>5 c/3 2>6", "b>7", "c/2", "c>8", "a/1 c/1", "$/0"},
			lalr: []string{"a>1 b/3 0>2 1>3 2>4", "b/2 c/2", "$!", "a>1 c/3 2>5", "b>6", "c>7", "a/1 c/1", "$/0"}},
		{what: "conflicts of LALR alone", text: "S : a A d | b B d | a B e | b A e; A : c; B : c",
			lr1:   []string{"a>1 b>2 0>3", "c>4 1>5 2>6", "c>7 1>8 2>9", "$!", "d/4 e/5", "d>10", "e>11", "d/5 e/4", "e>12", "d>13", "$/0", "$/2", "$/3", "$/1"},
			lalr:  []string{"a>1 b>2 0>3", "c>4 1>5 2>6", "c>4 1>7 2>8", "$!", "d/4 e/4", "d>9", "e>10", "e>11", "d>12", "$/0", "$/2", "$/3", "$/1"},
			clash: [2]string{"", "4 d 2 4 5, 4 e 2 4 5"}},
	} {
		h.check(t)
	}
}

// P62, P63: the assignments of example 6 have 14 states, and 10.
func TestAssignments(t *testing.T) {
	g := of(t, "S : L a R | R; L : b R | c; R : L")
	for i, m := range makers {
		x := made(t, m, g)
		if want := []int{14, 10}[i]; len(x.Acts) != want || len(x.Conflicts) != 0 {
			t.Errorf("%s: %d states, want %d, conflicts %v", m.name, len(x.Acts), want, x.Conflicts)
		}
	}
}

// P61, P64: Start need not be the name 0, and a name need not be met.
func TestOtherStart(t *testing.T) {
	g := api.Grammar{Terms: 3, Names: 3, Start: 1, Prods: []api.Prod{{Left: 1, Right: []int{-1, 0}}, {Left: 0, Right: []int{1}}}}
	want := []string{"b>1 0>2 1>3", "a/1", "a>4", "$!", "$/0"}
	for _, m := range makers {
		x := made(t, m, g)
		if got := told(g, x); !slices.Equal(got, want) {
			t.Errorf("%s: %q, want %q", m.name, got, want)
		}
		if !slices.Equal(x.Gotos[0], []int{2, 3, -1}) || !slices.Equal(x.Gotos[1], []int{-1, -1, -1}) {
			t.Errorf("%s: Gotos %v", m.name, x.Gotos)
		}
		if x.Acts[3][3] != (api.Act{Kind: api.ActAccept}) || x.Acts[3][0] != (api.Act{}) {
			t.Errorf("%s: Acts %v", m.name, x.Acts[3])
		}
	}
}

// P64: several reductions, also by -1, and a shift without levels.
func TestConflicts(t *testing.T) {
	for _, h := range []byHand{
		{what: "one production twice", text: "S : a | a", lr1: []string{"a>1 0>2", "$/0", "$!"}, clash: [2]string{"1 $ 2 0 1"}},
		{what: "two reductions", text: "S : A | B; A : a; B : a",
			lr1: []string{"a>1 0>2 1>3 2>4", "$/2", "$!", "$/0", "$/1"}, clash: [2]string{"1 $ 2 2 3"}},
		{what: "three reductions", text: "S : A | B | C; A : a; B : a; C : a",
			lr1: []string{"a>1 0>2 1>3 2>4 3>5", "$/3", "$!", "$/0", "$/1", "$/2"}, clash: [2]string{"1 $ 2 3 4, 1 $ 2 3 5"}},
		{what: "reductions at several terminals", text: "S : A b | B b | A a | B a; A : ; B :",
			lr1:   []string{"a/4 b/4 0>1 1>2 2>3", "$!", "a>4 b>5", "a>6 b>7", "$/2", "$/0", "$/3", "$/1"},
			clash: [2]string{"0 a 2 4 5, 0 b 2 4 5"}},
		{what: "reductions beside a shift", text: "S : A b | B b | C b | a b c; A : a; B : a; C : a",
			lr1:   []string{"a>1 0>2 1>3 2>4 3>5", "b>6", "$!", "b>7", "b>8", "b>9", "c>10", "$/0", "$/1", "$/2", "$/3"},
			clash: [2]string{"1 b 1 -1 4, 1 b 2 4 5, 1 b 2 4 6"}},
		{what: "one reduction beside a shift", text: "S : a S | a S b S | c",
			lr1: []string{"a>1 c>2 0>3", "a>4 c>5 0>6", "$/2", "$!", "a>4 c>5 0>7", "b/2 $/2", "b>8 $/0",
				"b>9 $/0", "a>1 c>2 0>10", "a>4 c>5 0>11", "$/1", "b/1 $/1"},
			lalr:  []string{"a>1 c>2 0>3", "a>1 c>2 0>4", "b/2 $/2", "$!", "b>5 $/0", "a>1 c>2 0>6", "b/1 $/1"},
			clash: [2]string{"7 b 1 -1 0", "4 b 1 -1 0"}},
		{what: "accepted beside a shift", text: "S : S a |", lr1: []string{"a/1 $/1 0>1", "a>2 $!", "a/0 $/0"}},
		{what: "accepted or reduced", text: "S : S | a", lr1: []string{"a>1 0>2", "$/1", "$!"}, clash: [2]string{"2 $ 2 -1 0"}},
		{what: "accepted or reduced, by another name", text: "S : a | T; T : S",
			lr1: []string{"a>1 0>2 1>3", "$/0", "$!", "$/1"}, clash: [2]string{"2 $ 2 -1 2"}},
		{what: "accepted, or reduced by two", text: "S : S | T | a; T : S",
			lr1: []string{"a>1 0>2 1>3", "$/2", "$!", "$/1"}, clash: [2]string{"2 $ 2 -1 0, 2 $ 2 -1 3"}},
	} {
		h.check(t)
	}
}

// grid goes through levels of a production and a terminal, and sides of three levels.
func grid(visit func(prod, term int, sides []int)) {
	for code := range 27 * 16 {
		sides := []int{1 + code%3, 1 + code/3%3, 1 + code/9%3}
		visit(code/27%4, code/27/4, sides)
	}
}

// P64: what is done by levels and sides: in E : E a E | b the production 0, or a behind it.
func TestLevels(t *testing.T) {
	reduce, shift := api.Act{Kind: api.ActReduce}, api.Act{Kind: api.ActShift, To: 3}
	told := []api.Act{api.ToLeft: reduce, api.ToRight: shift, api.ToNone: {}}
	grid(func(prod, term int, sides []int) {
		g := of(t, "E : E a E | b")
		g.Sides, g.Levels, g.Prods[0].Level = sides, []int{term, 3}, prod
		want, conflicts := shift, ""
		switch {
		case prod == 0 || term == 0:
			conflicts = "4 a 1 -1 0"
		case prod > term:
			want = reduce
		case prod == term:
			want = told[sides[prod-1]]
		}
		for _, m := range makers {
			x := made(t, m, g)
			if got := x.Acts[4]; got[0] != want || got[1] != (api.Act{}) || got[2] != reduce || len(x.Acts) != 5 {
				t.Errorf("%s: levels %d and %d, sides %v: %v, want %v", m.name, prod, term, sides, got, want)
			}
			if got := clashes(g, x); got != conflicts {
				t.Errorf("%s: levels %d and %d: conflicts %q, want %q", m.name, prod, term, got, conflicts)
			}
		}
	})
}

// P64: without Levels each terminal's is 0, and of productions it is their own Level that counts, not that of their terminals.
func TestWhoseLevel(t *testing.T) {
	g := of(t, "E : E a E | b")
	g.Sides, g.Prods[0].Level = []int{api.ToLeft}, 1
	for i, levels := range [][]int{nil, {}, {0, 1}, {1, 0}} {
		g.Levels = levels
		for _, m := range makers {
			if x := made(t, m, g); len(x.Conflicts) != []int{1, 1, 1, 0}[i] {
				t.Errorf("%s: Levels %v: conflicts %v", m.name, levels, x.Conflicts)
			}
		}
	}
	g.Levels, g.Prods[0].Level, g.Prods[1].Level = []int{1, 1}, 0, 1
	for _, m := range makers {
		if x := made(t, m, g); len(x.Conflicts) != 1 || x.Acts[4][0].Kind != api.ActShift {
			t.Errorf("%s: conflicts %v", m.name, x.Conflicts)
		}
	}
}

// P64: of several reductions beside a shift the level of the least production counts, and the others stay conflicts; no state goes.
func TestLevelsOfSeveral(t *testing.T) {
	for _, c := range []struct {
		prods []int // the levels of A : a, B : a, C : a
		side  int
		act   string
		clash string
	}{
		{[]int{0, 0, 0}, api.ToLeft, "b>6", "1 b 1 -1 4, 1 b 2 4 5, 1 b 2 4 6"},
		{[]int{0, 2, 2}, api.ToLeft, "b>6", "1 b 1 -1 4, 1 b 2 4 5, 1 b 2 4 6"},
		{[]int{2, 0, 0}, api.ToLeft, "b/4", "1 b 2 4 5, 1 b 2 4 6"},
		{[]int{2, 1, 3}, api.ToRight, "b>6", "1 b 2 4 5, 1 b 2 4 6"},
		{[]int{2, 3, 3}, api.ToNone, "", "1 b 2 4 5, 1 b 2 4 6"},
		{[]int{1, 3, 3}, api.ToLeft, "b>6", "1 b 2 4 5, 1 b 2 4 6"},
		{[]int{3, 1, 1}, api.ToRight, "b/4", "1 b 2 4 5, 1 b 2 4 6"},
	} {
		g := of(t, "S : A b | B b | C b | a b c; A : a; B : a; C : a")
		g.Sides, g.Levels = []int{api.ToNone, c.side, api.ToNone}, []int{0, 2, 0}
		for i, l := range c.prods {
			g.Prods[4+i].Level = l
		}
		for _, m := range makers {
			x := made(t, m, g)
			if got := told(g, x); len(got) != 11 || got[1] != c.act || got[6] != "c>10" {
				t.Errorf("%s: levels %v: %q, want %q", m.name, c.prods, got, c.act)
			}
			if got := clashes(g, x); got != c.clash {
				t.Errorf("%s: levels %v: conflicts %q, want %q", m.name, c.prods, got, c.clash)
			}
		}
	}
}

// P64: levels do not choose between reductions, nor where there is a reduction alone.
func TestLevelsOfReductions(t *testing.T) {
	g := of(t, "S : A a | B a; A : b; B : b")
	g.Sides, g.Levels = []int{api.ToNone, api.ToRight}, []int{1, 2}
	g.Prods[2].Level, g.Prods[3].Level = 1, 2
	for _, m := range makers {
		x := made(t, m, g)
		if got := told(g, x); got[1] != "a/2" || clashes(g, x) != "1 a 2 2 3" {
			t.Errorf("%s: %q, conflicts %q", m.name, got, clashes(g, x))
		}
	}
}
