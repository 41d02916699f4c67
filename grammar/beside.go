package grammar

import (
	"grammarsmith/api"
	"grammarsmith/marks"
)

// Opening is how the sentences of a row of symbols begin: with which terminals, and whether one of them is empty.
type Opening struct {
	Terms marks.Set
	Empty bool
}

// Then: with what the row begins where one of these looks stands behind it.
func (o Opening) Then(looks marks.Set) marks.Set {
	if o.Empty {
		return o.Terms.Join(looks)
	}
	return o.Terms
}

// putAhead gives the opening of a row that has one symbol more at its front. Where the row has no sentence, so that it begins with nothing at all, the longer one has none either.
func (o Opening) putAhead(symbol int, first []marks.Set, empty []bool) Opening {
	if o == (Opening{}) {
		return o
	}
	n, named := nameOf(symbol)
	if !named {
		return Opening{Terms: marks.Of(symbol)}
	}
	ahead := Opening{Terms: first[n], Empty: empty[n]}
	return Opening{Terms: ahead.Then(o.Terms), Empty: ahead.Empty && o.Empty}
}

// rowOpenings gives the opening of what stands from each place of a row on, the last one that of nothing.
func rowOpenings(row []int, first []marks.Set, empty []bool) []Opening {
	out := make([]Opening, len(row)+1)
	out[len(row)] = Opening{Empty: true}
	for i := len(row) - 1; i >= 0; i-- {
		out[i] = out[i+1].putAhead(row[i], first, empty)
	}
	return out
}

func prodOpenings(g api.Grammar) [][]Opening {
	first, empty := firsts(g), haveTrees(g, withoutLeaves)
	out := make([][]Opening, len(g.Prods))
	for i, p := range g.Prods {
		out[i] = rowOpenings(p.Right, first, empty)
	}
	return out
}

func firsts(g api.Grammar) []marks.Set {
	own, empty := ownProds(g), haveTrees(g, withoutLeaves)
	return least(marks.Set{}, within(g), func(first []marks.Set, n int) marks.Set {
		var all marks.Set
		for _, p := range own[n] {
			all = all.Join(rowOpenings(p.Right, first, empty)[0].Terms)
		}
		return all
	})
}

func follows(g api.Grammar) []marks.Set {
	next, hosts := behind(g)
	return least(marks.Set{}, hosts, func(follow []marks.Set, n int) marks.Set {
		all := next[n]
		for host := range hosts[n] {
			all = all.Join(follow[host])
		}
		return all
	})
}

// behind gives what stands behind each name within one production, the end behind Start, and of which names it may stand at the very end, so that what stands behind those stands behind it.
func behind(g api.Grammar) ([]marks.Set, links) {
	used, openings := usedProds(g), prodOpenings(g)
	next, hosts := make([]marks.Set, g.Names), newLinks(g.Names)
	if haveTrees(g, withLeaves)[g.Start] {
		next[g.Start] = marks.Of(g.Terms)
	}
	for i, p := range g.Prods {
		if !used[i] {
			continue
		}
		for k, s := range p.Right {
			n, named := nameOf(s)
			if !named {
				continue
			}
			rest := openings[i][k+1]
			next[n] = next[n].Join(rest.Terms)
			if rest.Empty {
				hosts.add(n, p.Left)
			}
		}
	}
	return next, hosts
}

func listsOf(all []marks.Set) [][]int {
	out := make([][]int, len(all))
	for i, s := range all {
		out[i] = s.List()
	}
	return out
}
