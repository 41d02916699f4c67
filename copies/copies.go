// Package copies: things of package api in memory of their own. Whatever lies in them is there: nothing is nil but lists.
package copies

import (
	"slices"

	"grammarsmith/api"
)

// each gives what a function makes of each of a list.
func each[T any](l []T, makes func(T) T) []T {
	var out []T
	for _, x := range l {
		out = append(out, makes(x))
	}
	return out
}

// Rules: the rules of a scanner.
func Rules(l []api.Rule) []api.Rule {
	return each(l, func(r api.Rule) api.Rule {
		r.Re = pattern(r.Re)
		return r
	})
}

func pattern(p *api.Re) *api.Re {
	return &api.Re{Kind: p.Kind, Set: slices.Clone(p.Set), Min: p.Min, Max: p.Max, Kids: each(p.Kids, pattern)}
}

// Expr: an expression.
func Expr(e *api.Expr) *api.Expr {
	return &api.Expr{Kind: e.Kind, Num: e.Num, Text: e.Text, Kids: each(e.Kids, Expr)}
}

// Grammar: a grammar.
func Grammar(g api.Grammar) api.Grammar {
	g.Prods = each(g.Prods, func(p api.Prod) api.Prod {
		p.Right = slices.Clone(p.Right)
		return p
	})
	g.Levels, g.Sides = slices.Clone(g.Levels), slices.Clone(g.Sides)
	return g
}

// Table: a table.
func Table(t api.Table) api.Table {
	return api.Table{Acts: each(t.Acts, slices.Clone), Gotos: each(t.Gotos, slices.Clone), Conflicts: slices.Clone(t.Conflicts)}
}

// Tree: a tree, which may be too deep to go into itself.
func Tree(r *api.Tree) *api.Tree {
	above := &api.Tree{Kids: []*api.Tree{r}}
	work := []*api.Tree{above}
	for len(work) > 0 {
		kids := work[len(work)-1].Kids
		work = work[:len(work)-1]
		for i, k := range kids {
			kids[i] = &api.Tree{Prod: k.Prod, Token: k.Token, Kids: slices.Clone(k.Kids)}
			work = append(work, kids[i])
		}
	}
	return above.Kids[0]
}
