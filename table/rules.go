package table

import (
	"grammarsmith/api"
	"grammarsmith/grammar"
	"grammarsmith/marks"
)

// goal is the production that there is beside those of the grammar: Start alone.
const goal = -1

// nowhere is where a state leads by a symbol ahead of which no item of it stands.
const nowhere = -1

// rules are a grammar's productions in a form of which states are soon made. Symbols are columns: the terminals in their order, then the names in theirs. So columns in ascending order are the symbols in the order in which states are come to.
type rules struct {
	terms, names int
	rights       [][]int // of each production, the goal ahead of them
	rests        [][]grammar.Opening
	own          [][]int // the productions of each name
}

func rulesOf(g api.Grammar) *rules {
	r := &rules{terms: g.Terms, names: g.Names, own: make([][]int, g.Names)}
	r.rights = [][]int{{g.Terms + g.Start}}
	for i, p := range g.Prods {
		r.rights = append(r.rights, columns(g, p.Right))
		r.own[p.Left] = append(r.own[p.Left], i)
	}
	nothing := grammar.Opening{Empty: true}
	r.rests = append([][]grammar.Opening{{{}, nothing}}, grammar.Openings(g)...)
	return r
}

func columns(g api.Grammar, symbols []int) []int {
	out := make([]int, len(symbols))
	for i, s := range symbols {
		out[i] = s
		if s < 0 {
			out[i] = g.Terms - 1 - s
		}
	}
	return out
}

func (r *rules) right(prod int) []int {
	return r.rights[prod-goal]
}

// ahead gives the column of the symbol ahead of which an item's place stands, and whether there is one.
func (r *rules) ahead(i item) (int, bool) {
	right := r.right(i.prod)
	if i.place == len(right) {
		return nowhere, false
	}
	return right[i.place], true
}

// nameAhead is ahead, of names alone.
func (r *rules) nameAhead(i item) (int, bool) {
	column, is := r.ahead(i)
	return column - r.terms, is && column >= r.terms
}

// behind gives the looks of what an item's place stands ahead of, where the item has those looks.
func (r *rules) behind(i item, looks marks.Set) marks.Set {
	return r.rests[i.prod-goal][i.place+1].Then(looks)
}

// end is the goal's only look.
func (r *rules) end() marks.Set {
	return marks.Of(r.terms)
}
