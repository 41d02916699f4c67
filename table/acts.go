package table

import (
	"maps"
	"slices"

	"grammarsmith/api"
)

// What is done where a shift and a reduction can be.
const (
	undecided = iota
	reduces
	shifts
	neither
)

// bySide says it for a production and a terminal of one level.
var bySide = [...]int{api.ToLeft: reduces, api.ToRight: shifts, api.ToNone: neither}

// decided says it by the levels of the production and of the terminal.
func decided(prod, term int, sides []int) int {
	switch {
	case prod == 0 || term == 0:
		return undecided
	case prod > term:
		return reduces
	case prod < term:
		return shifts
	}
	return bySide[sides[prod-1]]
}

// The kinds of conflicts.
const (
	shiftOrReduce = iota + 1
	reduceOrReduce
)

// theShift stands in a conflict for what is no production.
const theShift = -1

// writer writes a table state by state.
type writer struct {
	api.Grammar
	table api.Table
}

func (w *writer) write(state int, ways []int, ends items) {
	acts := make([]api.Act, w.Terms+1)
	sorted := slices.SortedFunc(maps.Keys(ends), inOrder)
	for term := range acts {
		var prods []int
		for _, i := range sorted {
			if ends[i].Has(term) {
				prods = append(prods, i.prod)
			}
		}
		shift := nowhere
		if term < w.Terms {
			shift = ways[term]
		}
		acts[term] = w.act(api.Conflict{State: state, Term: term}, shift, prods)
	}
	w.table.Acts = append(w.table.Acts, acts)
	w.table.Gotos = append(w.table.Gotos, slices.Clone(ways[w.Terms:]))
}

// act decides what is done at a place from which a shift leads to a state or nowhere, and where reductions can be done by productions, told in ascending order.
func (w *writer) act(at api.Conflict, shift int, prods []int) api.Act {
	if len(prods) == 0 {
		return shiftTo(shift)
	}
	out := w.oneOf(at, shift, prods[0])
	for _, other := range prods[1:] {
		w.tell(at, reduceOrReduce, prods[0], other)
	}
	return out
}

// oneOf decides between a shift, if it leads anywhere, and a reduction.
func (w *writer) oneOf(at api.Conflict, shift, prod int) api.Act {
	if shift == nowhere {
		return reduceBy(prod)
	}
	switch decided(w.Prods[prod].Level, w.levelOf(at.Term), w.Sides) {
	case reduces:
		return reduceBy(prod)
	case neither:
		return api.Act{}
	case undecided:
		w.tell(at, shiftOrReduce, theShift, prod)
	}
	return shiftTo(shift)
}

func (w *writer) tell(at api.Conflict, kind, a, b int) {
	at.Kind, at.A, at.B = kind, a, b
	w.table.Conflicts = append(w.table.Conflicts, at)
}

func (w *writer) levelOf(term int) int {
	if len(w.Levels) == 0 {
		return 0
	}
	return w.Levels[term]
}

func shiftTo(state int) api.Act {
	if state == nowhere {
		return api.Act{}
	}
	return api.Act{Kind: api.ActShift, To: state}
}

func reduceBy(prod int) api.Act {
	if prod == goal {
		return api.Act{Kind: api.ActAccept}
	}
	return api.Act{Kind: api.ActReduce, To: prod}
}
