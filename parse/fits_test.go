package parse_test

import (
	"math"
	"slices"
	"testing"

	"grammarsmith/api"
	"grammarsmith/parse"
)

// small has two terminals, two names and three productions, and a table of five states, in which nothing is done.
func small(t *testing.T) (api.Grammar, api.Table) {
	t.Helper()
	var x api.Table
	for range 5 {
		x.Acts, x.Gotos = append(x.Acts, make([]api.Act, 3)), append(x.Gotos, []int{-1, -1})
	}
	return of(t, "SaAb", "Aa", "A"), x
}

// P70: tables that chapter 6 makes fit, whatever stands in Conflicts.
func TestTablesFit(t *testing.T) {
	d := &dice{seed: 70}
	for range 500 {
		g, x := d.read()
		if !parse.Fits(g, x) {
			t.Fatalf("%+v does not fit %+v", x, g)
		}
		for _, conflicts := range [][]api.Conflict{nil, {}, {{State: -1, Term: 99, Kind: 7, A: -5, B: math.MaxInt}, {}}, make([]api.Conflict, 5000)} {
			x.Conflicts = conflicts
			if !parse.Fits(g, x) {
				t.Errorf("%d conflicts: does not fit", len(conflicts))
			}
		}
	}
	g := of(t, "S")
	g.Terms = 0
	if !parse.Fits(g, written(t, "!|.")) || !parse.Fits(g, written(t, "/0|0")) {
		t.Error("no terminals")
	}
	g.Prods = nil
	if !parse.Fits(g, written(t, "!|.")) || parse.Fits(g, written(t, "/0|.")) {
		t.Error("no productions")
	}
}

// P70: the table of a grammar that is not valid does not fit, though its rows are of the right form.
func TestFitsWantsValidGrammar(t *testing.T) {
	for name, spoil := range map[string]func(*api.Grammar){
		"Start below 0":        func(g *api.Grammar) { g.Start = -1 },
		"Start is no name":     func(g *api.Grammar) { g.Start = g.Names },
		"Left is no name":      func(g *api.Grammar) { g.Prods[1].Left = g.Names },
		"a symbol too large":   func(g *api.Grammar) { g.Prods[0].Right[0] = g.Terms },
		"a symbol too small":   func(g *api.Grammar) { g.Prods[0].Right[0] = -1 - g.Names },
		"Right too long":       func(g *api.Grammar) { g.Prods[1].Right = make([]int, api.MaxRight+1) },
		"a level without side": func(g *api.Grammar) { g.Prods[2].Level = 1 },
		"levels too few":       func(g *api.Grammar) { g.Levels = []int{0} },
		"levels too many":      func(g *api.Grammar) { g.Levels = []int{0, 0, 0} },
		"a side that is none":  func(g *api.Grammar) { g.Sides = []int{4} },
		"many productions":     func(g *api.Grammar) { g.Prods = slices.Repeat(g.Prods, api.MaxProds) },
	} {
		g, x := small(t)
		if !parse.Fits(g, x) {
			t.Fatalf("%s: does not fit", name)
		}
		spoil(&g)
		checkNot(t, name, g, x)
	}
	many := func(terms, names int) (api.Grammar, api.Table) {
		g := api.Grammar{Terms: terms, Names: names}
		return g, api.Table{Acts: [][]api.Act{make([]api.Act, max(terms+1, 0))}, Gotos: [][]int{make([]int, names)}}
	}
	if g, x := many(api.MaxSyms, api.MaxSyms); !parse.Fits(g, x) {
		t.Error("as many symbols as may be: does not fit")
	}
	for _, c := range [][2]int{{api.MaxSyms + 1, 1}, {1, api.MaxSyms + 1}, {-1, 1}, {-2, 1}, {1, 0}} {
		g, x := many(c[0], c[1])
		checkNot(t, "symbols", g, x)
	}
}

// checkNot asks of all calls that the table does not fit.
func checkNot(t *testing.T, name string, g api.Grammar, x api.Table) {
	t.Helper()
	if parse.Fits(g, x) {
		t.Errorf("%s: fits", name)
	}
	for _, in := range [][]int{nil, {0}, {0, 1}} {
		if r, err := parse.Parse(g, x, in); r != nil || err != api.ErrSyntax {
			t.Errorf("%s: Parse of %v: %s, %v", name, in, parse.Show(r), err)
		}
		if got := parse.Next(g, x, in); len(got) != 0 {
			t.Errorf("%s: Next of %v: %v", name, in, got)
		}
	}
}

// P70: how many rows there are, and how long they are.
func TestFitsRows(t *testing.T) {
	g, x := small(t)
	rows := func(acts, gotos int) api.Table {
		return api.Table{Acts: slices.Repeat(x.Acts[:1], acts), Gotos: slices.Repeat(x.Gotos[:1], gotos)}
	}
	for _, n := range []int{1, 2, 5, api.MaxTable - 1, api.MaxTable} {
		if !parse.Fits(g, rows(n, n)) {
			t.Errorf("%d rows: does not fit", n)
		}
		checkNot(t, "one row of Gotos less", g, rows(n, n-1))
		checkNot(t, "one row of Acts less", g, rows(n-1, n))
		checkNot(t, "no rows of Gotos", g, rows(n, 0))
		checkNot(t, "no rows of Acts", g, rows(0, n))
	}
	checkNot(t, "no table", g, api.Table{})
	checkNot(t, "no rows", g, api.Table{Acts: [][]api.Act{}, Gotos: [][]int{}})
	checkNot(t, "too many rows", g, rows(api.MaxTable+1, api.MaxTable+1))
	checkNot(t, "one row of Gotos more", g, rows(api.MaxTable, api.MaxTable+1))
	checkNot(t, "one row of Acts more", g, rows(api.MaxTable+1, api.MaxTable))
	for s := range 5 {
		for _, n := range []int{0, 1, 2, 3, 4, 5} {
			_, x := small(t)
			if x.Acts[s] = make([]api.Act, n); n != 3 {
				checkNot(t, "a row of Acts", g, x)
			} else if !parse.Fits(g, x) {
				t.Error("a row of Acts: does not fit")
			}
			_, x = small(t)
			if x.Gotos[s] = make([]int, n); n != 2 {
				checkNot(t, "a row of Gotos", g, x)
			} else if !parse.Fits(g, x) {
				t.Error("a row of Gotos: does not fit")
			}
		}
		_, x := small(t)
		x.Acts[s] = nil
		checkNot(t, "no Acts", g, x)
		_, x = small(t)
		x.Gotos[s] = nil
		checkNot(t, "no Gotos", g, x)
	}
}

var odd = []int{math.MinInt, -1 << 40, -7, -3, -2, -1, 0, 1, 2, 3, 4, 5, 6, 7, 1 << 32, 1<<32 + 1, math.MaxInt}

// mayStand says of an act, in the chapter's words, whether it may stand: five states, three productions; terminal 2 is the end.
func mayStand(term int, a api.Act) bool {
	state, prod, end := a.To >= 0 && a.To <= 4, a.To >= 0 && a.To <= 2, term == 2
	switch a.Kind {
	case 0:
		return a.To == 0
	case 1:
		return state && !end
	case 2:
		return prod
	case 3:
		return a.To == 0 && end
	}
	return false
}

// P70: each Act in each place, and each number in Gotos.
func TestFitsActs(t *testing.T) {
	g, x := small(t)
	fit := 0
	for s := range 5 {
		for term := range 3 {
			for _, kind := range odd {
				for _, to := range odd {
					a := api.Act{Kind: kind, To: to}
					x.Acts[s][term] = a
					if got := parse.Fits(g, x); got != mayStand(term, a) {
						t.Errorf("state %d at %d: %+v: fits: %v", s, term, a, got)
					} else if got {
						fit++
					}
					x.Acts[s][term] = api.Act{}
				}
			}
		}
		for n := range 2 {
			for _, to := range odd {
				x.Gotos[s][n] = to
				if got := parse.Fits(g, x); got != (to >= -1 && to <= 4) {
					t.Errorf("state %d by name %d: %d: fits: %v", s, n, to, got)
				}
				x.Gotos[s][n] = -1
			}
		}
	}
	if fit != 5*(3*1+2*5+3*3+1) {
		t.Errorf("%d acts fit", fit)
	}
}

// P70: what does not fit in one place alone is seen by all calls.
func TestOneWrongPlace(t *testing.T) {
	g := of(t, "SaSb", "S")
	for name, spoil := range map[string]func(*api.Table){
		"a kind":                 func(x *api.Table) { x.Acts[4][0].Kind = 4 },
		"a shift at the end":     func(x *api.Table) { x.Acts[4][2] = api.Act{Kind: api.ActShift, To: 1} },
		"accepted too early":     func(x *api.Table) { x.Acts[4][1] = api.Act{Kind: api.ActAccept} },
		"a state too large":      func(x *api.Table) { x.Acts[4][0] = api.Act{Kind: api.ActShift, To: 5} },
		"a production too large": func(x *api.Table) { x.Acts[4][0] = api.Act{Kind: api.ActReduce, To: 2} },
		"nothing, to somewhere":  func(x *api.Table) { x.Acts[4][0] = api.Act{To: 1} },
		"accepted, to somewhere": func(x *api.Table) { x.Acts[2][2].To = 1 },
		"a goto too large":       func(x *api.Table) { x.Gotos[4][0] = 5 },
		"a goto too small":       func(x *api.Table) { x.Gotos[4][0] = -2 },
	} {
		x := made(t, makers[1], g)
		if len(x.Acts) != 5 || !parse.Fits(g, x) {
			t.Fatalf("%d states", len(x.Acts))
		}
		spoil(&x)
		checkNot(t, name, g, x)
	}
}
