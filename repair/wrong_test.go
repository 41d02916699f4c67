package repair_test

import (
	"math"
	"slices"
	"testing"

	"grammarsmith/api"
)

// spoilt are the ways in which the grammar of aSb and nothing becomes one that is not valid.
func spoilt() map[string]func(*api.Grammar) {
	return map[string]func(*api.Grammar){
		"Start":          func(g *api.Grammar) { g.Start = 1 },
		"Start below 0":  func(g *api.Grammar) { g.Start = -1 },
		"no names":       func(g *api.Grammar) { g.Names = 0 },
		"names below 0":  func(g *api.Grammar) { g.Names = math.MinInt },
		"too many names": func(g *api.Grammar) { g.Names = api.MaxSyms + 1 },
		"far too many":   func(g *api.Grammar) { g.Names = math.MaxInt },
		"Level":          func(g *api.Grammar) { g.Prods[1].Level = 1 },
		"Levels":         func(g *api.Grammar) { g.Levels = []int{0} },
		"a level":        func(g *api.Grammar) { g.Levels = []int{0, 1} },
		"Sides":          func(g *api.Grammar) { g.Sides = []int{0} },
		"Left":           func(g *api.Grammar) { g.Prods = append(g.Prods, api.Prod{Left: -1}) },
		"Right":          func(g *api.Grammar) { g.Prods = append(g.Prods, api.Prod{Right: []int{2}}) },
		"a name":         func(g *api.Grammar) { g.Prods = append(g.Prods, api.Prod{Right: []int{-2}}) },
		"a long Right":   func(g *api.Grammar) { g.Prods = append(g.Prods, api.Prod{Right: row(0, api.MaxRight+1)}) },
		"Prods":          func(g *api.Grammar) { g.Prods = append(g.Prods, make([]api.Prod, api.MaxProds)...) },
	}
}

// P91: a grammar that is not valid is ErrSyntax, whatever else is wrong.
func TestNotValid(t *testing.T) {
	for name, spoil := range spoilt() {
		g := of(t, "SaSb S")
		spoil(&g)
		for _, c := range []api.Costs{ones(2), {}, ones(1), {Put: row(0, 2), Leave: row(1, 2)}} {
			for _, in := range [][]int{nil, {}, {0, 1}, {0}, {-1}, {2}, row(0, api.MaxWords+1)} {
				checkError(t, name, g, c, in, api.ErrSyntax)
			}
		}
	}
	for _, terms := range []int{-1, math.MinInt, api.MaxSyms + 1, math.MaxInt} {
		g := of(t, "SaSb S")
		g.Terms = terms
		checkError(t, "Terms", g, ones(min(max(terms, 0), api.MaxSyms+1)), nil, api.ErrSyntax)
	}
	checkError(t, "nothing at all", api.Grammar{}, api.Costs{}, nil, api.ErrSyntax)
}

// P91: there are just as many costs as terminals, each such as may be, also where no terminal is mended.
func TestMendWrongCosts(t *testing.T) {
	g := of(t, "SaSb S Sc")
	right := ones(3)
	for _, in := range [][]int{nil, terms("ab"), terms("cab"), terms("a"), {3}, row(0, api.MaxWords+1)} {
		for _, length := range []int{0, 1, 2, 4, 5, 1000} {
			checkError(t, "Put", g, api.Costs{Put: row(1, length), Leave: right.Leave}, in, api.ErrSyntax)
			checkError(t, "Leave", g, api.Costs{Put: right.Put, Leave: row(1, length)}, in, api.ErrSyntax)
			checkError(t, "both", g, ones(length), in, api.ErrSyntax)
		}
		for _, cost := range []int{0, -1, api.MaxCost + 1, math.MinInt, math.MaxInt, 1<<32 + 1} {
			for at := range 3 {
				put, leave := ones(3), ones(3)
				put.Put[at], leave.Leave[at] = cost, cost
				checkError(t, "a cost of Put", g, put, in, api.ErrSyntax)
				checkError(t, "a cost of Leave", g, leave, in, api.ErrSyntax)
			}
		}
	}
	for at := range 3 {
		put, leave := ones(3), ones(3)
		put.Put[at], leave.Leave[at] = api.MaxCost, api.MaxCost
		checkMend(t, "the dearest Put", g, put, terms("ab"), terms("ab"), 0)
		checkMend(t, "the dearest Leave", g, leave, terms("ab"), terms("ab"), 0)
	}
	bare := of(t, "S SSS")
	checkMend(t, "no terminals", bare, api.Costs{}, nil, nil, 0)
	checkError(t, "no terminals, but a cost", bare, ones(1), nil, api.ErrSyntax)
}

// P91: a terminal that is none of the grammar's, wherever it stands.
func TestMendNoTerminal(t *testing.T) {
	g := of(t, "SaSb S")
	for _, term := range []int{-1, -2, 2, 3, 64, 1 << 32, math.MinInt, math.MaxInt} {
		for at := range 5 {
			checkError(t, "a terminal that is none", g, ones(2), slices.Insert(terms("aabb"), at, term), api.ErrSyntax)
		}
		checkError(t, "alone", g, ones(2), []int{term}, api.ErrSyntax)
	}
	for _, term := range []int{-1, 0, 1} {
		checkError(t, "no terminals", of(t, "S SSS"), api.Costs{}, []int{term}, api.ErrSyntax)
	}
}

// P91: as many terminals as MaxWords, and one more.
func TestMendMaxWords(t *testing.T) {
	g := of(t, "SaSb S")
	const half = api.MaxWords / 2
	whole := append(row(0, half), row(1, half)...)
	checkMend(t, "a sentence", g, ones(2), whole, whole, 0)
	checkMend(t, "all left out", g, ones(2), row(0, api.MaxWords), nil, api.MaxWords)
	checkMend(t, "all left out", g, ones(2), append(row(1, half), row(0, half)...), nil, api.MaxWords)
	checkMend(t, "one more of a", g, ones(2), append(row(0, half+1), row(1, half-1)...), append(row(0, half-1), row(1, half-1)...), 2)
	dear := api.Costs{Put: row(1, 2), Leave: row(api.MaxCost, 2)}
	checkMend(t, "all stay", g, dear, row(0, api.MaxWords), append(row(0, api.MaxWords), row(1, api.MaxWords)...), api.MaxWords)
	checkMend(t, "all dear", g, api.Costs{Put: row(api.MaxCost, 2), Leave: row(api.MaxCost, 2)}, row(0, api.MaxWords), nil, api.MaxWords*api.MaxCost)
	for _, more := range []int{1, 2, 4, 5, 1000, 100_000} {
		checkError(t, "too many", g, ones(2), row(0, api.MaxWords+more), api.ErrBound)
		checkError(t, "too many for nothing", of(t, "S Aa"), ones(1), row(0, api.MaxWords+more), api.ErrBound)
	}
}

// P91: a Start that has no sentence.
func TestMendNoSentence(t *testing.T) {
	for _, prods := range []string{"SS", "SaS", "SA", "SAa AS Ba", "SaA SBb ASB BAS Ca", "Aa", "SaSb", ""} {
		g := of(t, prods)
		g.Terms = max(g.Terms, 1)
		for _, in := range [][]int{nil, {0}, {0, 0}, row(0, api.MaxWords)} {
			checkError(t, prods, g, ones(g.Terms), in, api.ErrRule)
		}
	}
	checkError(t, "no productions", api.Grammar{Names: 1}, api.Costs{}, nil, api.ErrRule)
	g := of(t, "SaSb Sc AA")
	g.Start = 1
	checkError(t, "only another name has one", g, ones(3), terms("c"), api.ErrRule)
}

// P91: where several errors would fit, the first that the chapter tells.
func TestMendErrorsInOrder(t *testing.T) {
	none, long := of(t, "SaSb"), many(api.MaxMended+1)
	long.Terms = 2
	wrong := ones(2)
	wrong.Leave[1] = 0
	bad := of(t, "SaSb")
	bad.Start = 9
	tooMany := row(0, api.MaxWords+1)
	strange := append(row(0, api.MaxWords), 2)
	for _, x := range []struct {
		name string
		g    api.Grammar
		c    api.Costs
		in   []int
		want error
	}{
		{"not valid, too many", bad, ones(2), tooMany, api.ErrSyntax},
		{"not valid, no sentence", bad, ones(2), nil, api.ErrSyntax},
		{"wrong costs, too many", long, wrong, tooMany, api.ErrSyntax},
		{"wrong costs, no sentence", none, wrong, nil, api.ErrSyntax},
		{"wrong costs, too long", long, wrong, nil, api.ErrSyntax},
		{"too few costs, too many", long, ones(1), tooMany, api.ErrSyntax},
		{"too few costs, no sentence", none, ones(1), nil, api.ErrSyntax},
		{"a strange terminal, too many", long, ones(2), strange, api.ErrSyntax},
		{"a strange terminal, no sentence", none, ones(2), []int{2}, api.ErrSyntax},
		{"a strange terminal, too long", long, ones(2), []int{-1}, api.ErrSyntax},
		{"too many, no sentence", none, ones(2), tooMany, api.ErrBound},
		{"too many, too long", long, ones(2), tooMany, api.ErrBound},
		{"no sentence", none, ones(2), row(0, api.MaxWords), api.ErrRule},
		{"too long", long, ones(2), row(0, api.MaxWords), api.ErrBound},
	} {
		checkError(t, x.name, x.g, x.c, x.in, x.want)
	}
}
