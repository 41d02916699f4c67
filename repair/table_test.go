package repair_test

import (
	"cmp"
	"slices"
	"testing"

	"grammarsmith/api"
	"grammarsmith/repair"
)

// A second model, for longer lists and dearer costs: a table of the best sentence of each symbol between any two places, in which anything may be left out anywhere. It is gone through again and again, until nothing gets better.

// found is a sentence and its cost; none is known as yet where it is nil.
type found struct {
	cost  int
	terms []int
}

func (f *found) compare(other *found) int {
	return cmp.Or(cmp.Compare(f.cost, other.cost), cmp.Compare(len(f.terms), len(other.terms)), slices.Compare(f.terms, other.terms))
}

func (f *found) then(other *found) *found {
	return &found{f.cost + other.cost, append(slices.Clone(f.terms), other.terms...)}
}

type span struct{ from, to int }

type bestTable struct {
	g    api.Grammar
	c    api.Costs
	in   []int
	best []map[span]*found // by names
}

// term: all are left out, and it is put in, or all but one that is the same.
func (b *bestTable) term(t int, s span) *found {
	part := b.in[s.from:s.to]
	cost := sum(b.c.Leave, part) + b.c.Put[t]
	if slices.Contains(part, t) {
		cost -= b.c.Put[t] + b.c.Leave[t]
	}
	return &found{cost, []int{t}}
}

func (b *bestTable) symbol(x int, s span) *found {
	if x < 0 {
		return b.best[-1-x][s]
	}
	return b.term(x, s)
}

// row gives the best sentences of a row of symbols from a place on, by the places at which they end.
func (b *bestTable) row(right []int, from int) []*found {
	ends := make([]*found, len(b.in)+1)
	for to := from; to <= len(b.in); to++ {
		ends[to] = &found{cost: sum(b.c.Leave, b.in[from:to])}
	}
	for _, x := range right {
		next := make([]*found, len(ends))
		for at := from; at < len(ends); at++ {
			for to := at; to < len(ends); to++ {
				part := b.symbol(x, span{at, to})
				if ends[at] == nil || part == nil {
					continue
				}
				if next[to] != nil && ends[at].cost+part.cost > next[to].cost {
					continue
				}
				if both := ends[at].then(part); next[to] == nil || both.compare(next[to]) < 0 {
					next[to] = both
				}
			}
		}
		ends = next
	}
	return ends
}

// improve goes through all once, and answers whether something has got better.
func (b *bestTable) improve() bool {
	better := false
	for _, p := range b.g.Prods {
		for from := range len(b.in) + 1 {
			for to, f := range b.row(p.Right, from) {
				known := b.best[p.Left][span{from, to}]
				if f != nil && (known == nil || f.compare(known) < 0) {
					b.best[p.Left][span{from, to}] = f
					better = true
				}
			}
		}
	}
	return better
}

// tableMend gives nil where there is no sentence.
func tableMend(g api.Grammar, c api.Costs, in []int) *found {
	b := &bestTable{g: g, c: c, in: in}
	for range g.Names {
		b.best = append(b.best, map[span]*found{})
	}
	for b.improve() {
	}
	return b.best[g.Start][span{0, len(in)}]
}

// P91: of many grammars what the second model says, for lists of some length, and for costs that are all alike, nearly so, or very different.
func TestMendByTable(t *testing.T) {
	d, none := &dice{seed: 19}, 0
	for i := range 10000 {
		g := d.grammar()
		c, in := d.costs(g.Terms, []int{1, 2, 5, api.MaxCost}[i%4]), d.list(g.Terms, 9)
		want := tableMend(g, c, in)
		if want == nil {
			none++
			checkError(t, "no sentence", g, c, in, api.ErrRule)
			continue
		}
		l, cost, err := repair.Mend(g, c, in)
		if err != nil || cost != want.cost || !slices.Equal(l, want.terms) {
			t.Fatalf("%+v, %+v, %v: %v at %d, %v, want %+v", g, c, in, l, cost, err, *want)
		}
	}
	if none > 5000 {
		t.Errorf("%d had no sentence", none)
	}
}
