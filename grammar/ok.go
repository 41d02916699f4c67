package grammar

import (
	"slices"

	"grammarsmith/api"
)

// maxSides is how many levels there are at most.
const maxSides = 50

func symbolsHold(g api.Grammar) bool {
	return g.Terms >= 0 && g.Terms <= api.MaxSyms && g.Names >= 1 && g.Names <= api.MaxSyms && isName(g, g.Start)
}

func isName(g api.Grammar, n int) bool {
	return n >= 0 && n < g.Names
}

func levelsHold(g api.Grammar) bool {
	if len(g.Sides) > maxSides || len(g.Levels) != 0 && len(g.Levels) != g.Terms {
		return false
	}
	for _, s := range g.Sides {
		if s != api.ToLeft && s != api.ToRight && s != api.ToNone {
			return false
		}
	}
	return !slices.ContainsFunc(g.Levels, func(l int) bool { return !isLevel(g, l) })
}

// isLevel takes 0, too, which says that there is none.
func isLevel(g api.Grammar, l int) bool {
	return l >= 0 && l <= len(g.Sides)
}

func prodsHold(g api.Grammar) bool {
	if len(g.Prods) > api.MaxProds {
		return false
	}
	return !slices.ContainsFunc(g.Prods, func(p api.Prod) bool { return !prodHolds(g, p) })
}

func prodHolds(g api.Grammar, p api.Prod) bool {
	if !isName(g, p.Left) || len(p.Right) > api.MaxRight || !isLevel(g, p.Level) {
		return false
	}
	return !slices.ContainsFunc(p.Right, func(s int) bool { return !isSymbol(g, s) })
}

func isSymbol(g api.Grammar, s int) bool {
	if n, named := nameOf(s); named {
		return isName(g, n)
	}
	return s < g.Terms
}

// nameOf gives the name that a symbol is, and whether it is one.
func nameOf(symbol int) (int, bool) {
	return -1 - symbol, symbol < 0
}
