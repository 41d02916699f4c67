package grammar_test

import (
	"math"
	"slices"
	"testing"

	"grammarsmith/api"
	"grammarsmith/grammar"
)

// levelled has two names, three terminals and two levels.
func levelled() api.Grammar {
	return api.Grammar{
		Terms: 3, Names: 2, Start: 1,
		Prods:  []api.Prod{{Left: 1, Right: []int{-2, 0, -2}, Level: 1}, {Left: 1, Right: []int{-1}}, {Left: 0, Right: []int{2, 1}, Level: 2}},
		Levels: []int{1, 2, 0},
		Sides:  []int{api.ToLeft, api.ToNone},
	}
}

// P50: each part of a grammar at its edges, and beyond.
func TestOkEdges(t *testing.T) {
	manyProds := func(n int) []api.Prod { return slices.Repeat([]api.Prod{{Left: 0, Right: []int{0, -1}}}, n) }
	noLevels := func(g *api.Grammar) {
		g.Levels, g.Sides = nil, nil
		for i := range g.Prods {
			g.Prods[i].Level = 0
		}
	}
	for _, c := range []struct {
		name   string
		valid  bool
		change func(g *api.Grammar)
	}{
		{"as it is", true, func(g *api.Grammar) {}},
		{"no terminals", true, func(g *api.Grammar) { g.Terms, g.Levels, g.Prods = 0, nil, []api.Prod{{Left: 1, Right: []int{-1}}} }},
		{"no terminals, but levels of them", false, func(g *api.Grammar) { g.Terms, g.Prods = 0, nil }},
		{"no terminals, but a symbol that is one", false, func(g *api.Grammar) { g.Terms, g.Levels = 0, nil }},
		{"terminals below 0", false, func(g *api.Grammar) { g.Terms, g.Levels, g.Prods = -1, nil, nil }},
		{"terminals far below 0", false, func(g *api.Grammar) { g.Terms, g.Levels, g.Prods = math.MinInt, nil, nil }},
		{"MaxSyms terminals", true, func(g *api.Grammar) { g.Terms, g.Levels = api.MaxSyms, nil }},
		{"one terminal more", false, func(g *api.Grammar) { g.Terms, g.Levels = api.MaxSyms+1, nil }},
		{"no end of terminals", false, func(g *api.Grammar) { g.Terms, g.Levels = math.MaxInt, nil }},
		{"MaxSyms terminals with levels", true, func(g *api.Grammar) { g.Terms, g.Levels = api.MaxSyms, row(2, api.MaxSyms) }},
		{"no names", false, func(g *api.Grammar) { g.Names, g.Start, g.Prods = 0, 0, nil }},
		{"names below 0", false, func(g *api.Grammar) { g.Names, g.Start, g.Prods = -1, 0, nil }},
		{"one name", true, func(g *api.Grammar) { g.Names, g.Start, g.Prods = 1, 0, g.Prods[2:] }},
		{"one name, and a symbol of the second", false, func(g *api.Grammar) { g.Names, g.Start, g.Prods = 1, 0, []api.Prod{{Left: 0, Right: []int{-2}}} }},
		{"MaxSyms names", true, func(g *api.Grammar) { g.Names, g.Start = api.MaxSyms, api.MaxSyms-1 }},
		{"one name more", false, func(g *api.Grammar) { g.Names = api.MaxSyms + 1 }},
		{"no end of names", false, func(g *api.Grammar) { g.Names = math.MaxInt }},
		{"the first name as Start", true, func(g *api.Grammar) { g.Start = 0 }},
		{"Start below 0", false, func(g *api.Grammar) { g.Start = -1 }},
		{"Start behind the last name", false, func(g *api.Grammar) { g.Start = 2 }},
		{"Start far behind", false, func(g *api.Grammar) { g.Start = math.MaxInt }},
		{"no productions", true, func(g *api.Grammar) { g.Prods = nil }},
		{"an empty list of productions", true, func(g *api.Grammar) { g.Prods = []api.Prod{} }},
		{"MaxProds productions", true, func(g *api.Grammar) { g.Prods = manyProds(api.MaxProds) }},
		{"one production more", false, func(g *api.Grammar) { g.Prods = manyProds(api.MaxProds + 1) }},
		{"the last of MaxProds is wrong", false, func(g *api.Grammar) {
			g.Prods = manyProds(api.MaxProds)
			g.Prods[api.MaxProds-1].Left = 2
		}},
		{"a Left below 0", false, func(g *api.Grammar) { g.Prods[1].Left = -1 }},
		{"a Left behind the last name", false, func(g *api.Grammar) { g.Prods[1].Left = 2 }},
		{"MaxRight symbols", true, func(g *api.Grammar) { g.Prods[2].Right = row(-2, api.MaxRight) }},
		{"one symbol more", false, func(g *api.Grammar) { g.Prods[2].Right = row(-2, api.MaxRight+1) }},
		{"no symbols", true, func(g *api.Grammar) { g.Prods[2].Right = []int{} }},
		{"nil symbols", true, func(g *api.Grammar) { g.Prods[2].Right = nil }},
		{"the last terminal", true, func(g *api.Grammar) { g.Prods[0].Right[1] = 2 }},
		{"a terminal behind the last", false, func(g *api.Grammar) { g.Prods[0].Right[1] = 3 }},
		{"the last name", true, func(g *api.Grammar) { g.Prods[0].Right[1] = -2 }},
		{"a name behind the last", false, func(g *api.Grammar) { g.Prods[0].Right[1] = -3 }},
		{"the last symbol is none", false, func(g *api.Grammar) { g.Prods[0].Right[2] = 3 }},
		{"the greatest number as a symbol", false, func(g *api.Grammar) { g.Prods[0].Right[1] = math.MaxInt }},
		{"the least number as a symbol", false, func(g *api.Grammar) { g.Prods[0].Right[1] = math.MinInt }},
		{"a production's level 0", true, func(g *api.Grammar) { g.Prods[0].Level = 0 }},
		{"a production's level len(Sides)", true, func(g *api.Grammar) { g.Prods[0].Level = 2 }},
		{"a production's level above", false, func(g *api.Grammar) { g.Prods[0].Level = 3 }},
		{"a production's level below", false, func(g *api.Grammar) { g.Prods[0].Level = -1 }},
		{"no levels at all", true, noLevels},
		{"a production's level without sides", false, func(g *api.Grammar) { noLevels(g); g.Prods[2].Level = 1 }},
		{"levels of 0 without sides", true, func(g *api.Grammar) { noLevels(g); g.Levels = row(0, 3) }},
		{"levels of 1 without sides", false, func(g *api.Grammar) { noLevels(g); g.Levels = []int{0, 0, 1} }},
		{"nil levels beside sides", true, func(g *api.Grammar) { g.Levels = nil }},
		{"empty levels beside sides", true, func(g *api.Grammar) { g.Levels = []int{} }},
		{"too few levels", false, func(g *api.Grammar) { g.Levels = []int{1, 2} }},
		{"too many levels", false, func(g *api.Grammar) { g.Levels = []int{1, 2, 0, 0} }},
		{"a level below 0", false, func(g *api.Grammar) { g.Levels = []int{1, 2, -1} }},
		{"a level of len(Sides)", true, func(g *api.Grammar) { g.Levels = []int{2, 2, 2} }},
		{"a level above len(Sides)", false, func(g *api.Grammar) { g.Levels = []int{1, 3, 0} }},
		{"50 sides", true, func(g *api.Grammar) { g.Sides = row(api.ToRight, 50); g.Levels[0], g.Prods[0].Level = 50, 50 }},
		{"51 sides", false, func(g *api.Grammar) { g.Sides = row(api.ToRight, 51) }},
		{"the side 0", false, func(g *api.Grammar) { g.Sides[1] = 0 }},
		{"the side 4", false, func(g *api.Grammar) { g.Sides[0] = 4 }},
		{"a side below 0", false, func(g *api.Grammar) { g.Sides[0] = -1 }},
		{"every side", true, func(g *api.Grammar) { g.Sides = []int{api.ToLeft, api.ToRight, api.ToNone} }},
	} {
		g := levelled()
		c.change(&g)
		if c.valid {
			checkValid(t, c.name, g)
		} else {
			checkNothing(t, c.name, g)
		}
	}
}

// P50, P3: a grammar of zero values has no name.
func TestOkOfNothing(t *testing.T) {
	checkNothing(t, "nothing", api.Grammar{})
	checkValid(t, "one name alone", api.Grammar{Names: 1})
	if !grammar.Ok(levelled()) {
		t.Error("levels")
	}
}

// P50: levels say nothing of trees.
func TestLevelsSayNothing(t *testing.T) {
	g := levelled()
	plain := levelled()
	plain.Levels, plain.Sides = nil, nil
	for i := range plain.Prods {
		plain.Prods[i].Level = 0
	}
	checkSame(t, "without levels", ask(g), ask(plain))
}
