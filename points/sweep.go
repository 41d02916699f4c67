package points

import (
	"cmp"
	"slices"

	"grammarsmith/api"
)

// edge is a point from which on one range more (by 1) or one range less (by -1) of a set holds.
type edge struct {
	at, set, by int
}

// edgesOf gives the edges of all sets in ascending order; what lies outside the points is cut off.
func edgesOf(sets [][]api.Range) []edge {
	var edges []edge
	for i, set := range sets {
		for _, r := range set {
			lo, hi := max(r.Lo, 0), min(r.Hi, api.MaxPoint)
			if lo <= hi {
				edges = append(edges, edge{lo, i, 1}, edge{hi + 1, i, -1})
			}
		}
	}
	slices.SortFunc(edges, func(x, y edge) int { return cmp.Compare(x.at, y.at) })
	return edges
}

// eachStretch goes through all points in ascending stretches with no edge inside: turn is told each edge ahead of the stretch that begins at it.
func eachStretch(sets [][]api.Range, turn func(set, by int), take func(r api.Range)) {
	from := 0
	for _, e := range edgesOf(sets) {
		if e.at > from {
			take(api.Range{Lo: from, Hi: e.at - 1})
			from = e.at
		}
		turn(e.set, e.by)
	}
	if from <= api.MaxPoint {
		take(api.Range{Lo: from, Hi: api.MaxPoint})
	}
}

// sweep gives the points that are wanted by which of two sets they lie in.
func sweep(a, b []api.Range, wanted func(inA, inB bool) bool) []api.Range {
	var out []api.Range
	var depth [2]int
	turn := func(set, by int) { depth[set] += by }
	eachStretch([][]api.Range{a, b}, turn, func(r api.Range) {
		if wanted(depth[0] > 0, depth[1] > 0) {
			out = extend(out, r)
		}
	})
	return out
}

// extend puts a range behind a canonical set; one that touches the last range makes it longer, so that the set stays canonical.
func extend(set []api.Range, r api.Range) []api.Range {
	if n := len(set); n > 0 && set[n-1].Hi+1 == r.Lo {
		set[n-1].Hi = r.Hi
		return set
	}
	return append(set, r)
}
