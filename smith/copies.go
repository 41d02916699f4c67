package smith

import (
	"slices"

	"grammarsmith/api"
)

// each gives what a function makes of each of a list.
func each[T any](l []T, makes func(T) T) []T {
	var out []T
	for _, x := range l {
		out = append(out, makes(x))
	}
	return out
}

func copyOfRules(l []api.Rule) []api.Rule {
	return each(l, func(r api.Rule) api.Rule {
		r.Re = copyOfPattern(r.Re)
		return r
	})
}

func copyOfPattern(p *api.Re) *api.Re {
	return &api.Re{Kind: p.Kind, Set: slices.Clone(p.Set), Min: p.Min, Max: p.Max, Kids: each(p.Kids, copyOfPattern)}
}

func copyOfExpr(e *api.Expr) *api.Expr {
	return &api.Expr{Kind: e.Kind, Num: e.Num, Text: e.Text, Kids: each(e.Kids, copyOfExpr)}
}

func copyOfGrammar(g api.Grammar) api.Grammar {
	g.Prods = each(g.Prods, func(p api.Prod) api.Prod {
		p.Right = slices.Clone(p.Right)
		return p
	})
	g.Levels, g.Sides = slices.Clone(g.Levels), slices.Clone(g.Sides)
	return g
}

func copyOfTable(t api.Table) api.Table {
	return api.Table{Acts: each(t.Acts, slices.Clone), Gotos: each(t.Gotos, slices.Clone), Conflicts: slices.Clone(t.Conflicts)}
}
