package grammar

import "grammarsmith/api"

// opening is how the sentences of a row of symbols begin: with which terminals, and whether one of them is empty.
type opening struct {
	terms marks
	empty bool
}

// putAhead gives the opening of a row that has one symbol more at its front.
func (o opening) putAhead(symbol int, first []marks, empty []bool) opening {
	n, named := nameOf(symbol)
	switch {
	case !named:
		return opening{terms: marks{}.with(symbol)}
	case empty[n]:
		return opening{terms: first[n].join(o.terms), empty: o.empty}
	}
	return opening{terms: first[n]}
}

func firsts(g api.Grammar) []marks {
	g = whole(g)
	own, empty := ownProds(g), haveTrees(g, withoutLeaves)
	return least(marks{}, within(g), func(first []marks, n int) marks {
		var all marks
		for _, p := range own[n] {
			o := opening{empty: true}
			for i := len(p.Right) - 1; i >= 0; i-- {
				o = o.putAhead(p.Right[i], first, empty)
			}
			all = all.join(o.terms)
		}
		return all
	})
}

func follows(g api.Grammar) []marks {
	next, hosts := behind(g)
	return least(marks{}, hosts, func(follow []marks, n int) marks {
		all := next[n]
		for host := range hosts[n] {
			all = all.join(follow[host])
		}
		return all
	})
}

// behind gives what stands behind each name within one production, the end behind Start, and of which names it may stand at the very end, so that what stands behind those stands behind it.
func behind(g api.Grammar) ([]marks, links) {
	used, first, empty := usedProds(g), firsts(g), haveTrees(g, withoutLeaves)
	next, hosts := make([]marks, g.Names), newLinks(g.Names)
	if haveTrees(g, withLeaves)[g.Start] {
		next[g.Start] = marks{}.with(g.Terms)
	}
	for i, p := range g.Prods {
		if !used[i] {
			continue
		}
		rest := opening{empty: true}
		for k := len(p.Right) - 1; k >= 0; k-- {
			if n, named := nameOf(p.Right[k]); named {
				next[n] = next[n].join(rest.terms)
				if rest.empty {
					hosts.add(n, p.Left)
				}
			}
			rest = rest.putAhead(p.Right[k], first, empty)
		}
	}
	return next, hosts
}
