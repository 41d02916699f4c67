package grammar

import (
	"slices"

	"grammarsmith/api"
	"grammarsmith/marks"
)

// Whether trees may have leaves: those without have the empty sentence.
const (
	withLeaves    = true
	withoutLeaves = false
)

// haveTrees finds which names have a tree, with leaves or without.
func haveTrees(g api.Grammar, leaves bool) []bool {
	own := ownProds(g)
	return least(false, within(g), func(have []bool, n int) bool {
		return slices.ContainsFunc(own[n], func(p api.Prod) bool { return rowHas(p.Right, have, leaves) })
	})
}

// rowHas says whether each symbol of a row has a tree, by what is known of the names.
func rowHas(row []int, have []bool, leaves bool) bool {
	for _, s := range row {
		if n, named := nameOf(s); named && !have[n] || !named && !leaves {
			return false
		}
	}
	return true
}

// ownProds gives the productions of each name.
func ownProds(g api.Grammar) [][]api.Prod {
	out := make([][]api.Prod, g.Names)
	for _, p := range g.Prods {
		out[p.Left] = append(out[p.Left], p)
	}
	return out
}

// within gives for each name those that stand in its productions.
func within(g api.Grammar) links {
	out := newLinks(g.Names)
	for _, p := range g.Prods {
		for _, s := range p.Right {
			if n, named := nameOf(s); named {
				out.add(p.Left, n)
			}
		}
	}
	return out
}

// whole leaves of a grammar the productions that stand in trees: where one does not, what its symbols stand for must not be taken for a part of what its name does.
func whole(g api.Grammar) api.Grammar {
	lives := haveTrees(g, withLeaves)
	var left []api.Prod
	for _, p := range g.Prods {
		if rowHas(p.Right, lives, withLeaves) {
			left = append(left, p)
		}
	}
	g.Prods = left
	return g
}

// reachedNames finds which names stand in trees of Start, or would if it had one.
func reachedNames(g api.Grammar) []bool {
	hosts := within(whole(g)).turned()
	return least(false, hosts, func(reached []bool, n int) bool {
		for host := range hosts[n] {
			if reached[host] {
				return true
			}
		}
		return n == g.Start
	})
}

func usedProds(g api.Grammar) []bool {
	lives, reached := haveTrees(g, withLeaves), reachedNames(g)
	out := make([]bool, len(g.Prods))
	for i, p := range g.Prods {
		out[i] = reached[p.Left] && rowHas(p.Right, lives, withLeaves)
	}
	return out
}

// loopingNames goes by what stands within a name with all of its sentence.
func loopingNames(g api.Grammar) []bool {
	alike := alikeWithin(whole(g))
	inside := least(marks.Set{}, alike, func(inside []marks.Set, n int) marks.Set {
		var all marks.Set
		for part := range alike[n] {
			all = all.With(part).Join(inside[part])
		}
		return all
	})
	out := make([]bool, g.Names)
	for n := range out {
		out[n] = inside[n].Has(n)
	}
	return out
}

// alikeWithin gives for each name those that stand in its productions beside nothing but what may be empty.
func alikeWithin(g api.Grammar) links {
	empty := haveTrees(g, withoutLeaves)
	out := newLinks(g.Names)
	for _, p := range g.Prods {
		for i, s := range p.Right {
			n, named := nameOf(s)
			if named && rowHas(p.Right[:i], empty, withoutLeaves) && rowHas(p.Right[i+1:], empty, withoutLeaves) {
				out.add(p.Left, n)
			}
		}
	}
	return out
}
