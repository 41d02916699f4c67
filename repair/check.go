package repair

import (
	"slices"

	"grammarsmith/api"
	"grammarsmith/grammar"
)

// costsHold: whether all costs are such as may be, also those of terminals that stand nowhere.
func costsHold(c api.Costs) bool {
	return !slices.ContainsFunc(c.Put, isWrongCost) && !slices.ContainsFunc(c.Leave, isWrongCost)
}

func isWrongCost(cost int) bool {
	return cost < 1 || cost > api.MaxCost
}

// areTerms: whether all of a list are among the first so many terminals.
func areTerms(list []int, terms int) bool {
	return !slices.ContainsFunc(list, func(t int) bool { return t < 0 || t >= terms })
}

func isMendable(list []int, terms int) bool {
	return len(list) <= api.MaxMended && areTerms(list, terms)
}

// wrongIn gives the first error of what is to be mended, in the order in which the chapter tells them.
func wrongIn(g api.Grammar, c api.Costs, in []int) error {
	switch {
	case !grammar.Ok(g), len(c.Put) != g.Terms, len(c.Leave) != g.Terms, !costsHold(c), !areTerms(in, g.Terms):
		return api.ErrSyntax
	case len(in) > api.MaxWords:
		return api.ErrBound
	}
	return nil
}
