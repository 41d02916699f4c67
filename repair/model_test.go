package repair_test

import (
	"slices"
	"testing"

	"grammarsmith/api"
	"grammarsmith/forest"
	"grammarsmith/repair"
)

// The model goes by the chapter's words. What stays of a list is chosen in all ways; sentences are found among all lists of terminals, one by one, the shorter ones first and those of one length in order.

// isWithin: whether a list stands in another one, in its order, maybe with others between.
func isWithin(list, other []int) bool {
	for _, t := range other {
		if len(list) > 0 && list[0] == t {
			list = list[1:]
		}
	}
	return len(list) == 0
}

func sum(costs, list []int) int {
	out := 0
	for _, t := range list {
		out += costs[t]
	}
	return out
}

// modelCost tries each choice of terminals that stay.
func modelCost(c api.Costs, from, to []int) int {
	best := sum(c.Leave, from) + sum(c.Put, to)
	for chosen := range 1 << len(from) {
		var stay []int
		for i, t := range from {
			if chosen>>i&1 == 1 {
				stay = append(stay, t)
			}
		}
		if isWithin(stay, to) {
			best = min(best, sum(c.Leave, from)-sum(c.Leave, stay)+sum(c.Put, to)-sum(c.Put, stay))
		}
	}
	return best
}

// maxLists is for how many lists a test has time.
const maxLists = 1500

// modelMend answers false where there are too many lists. A sentence that has more terminals than are given and the best cost is dearer: that many at least are put in.
func modelMend(g api.Grammar, c api.Costs, in []int) (best []int, cost int, done bool) {
	cost = -1
	lists, seen := [][]int{nil}, 0
	for cost < 0 || len(lists[0]) <= len(in)+cost {
		var next [][]int
		for _, l := range lists {
			if seen++; seen > maxLists {
				return nil, 0, false
			}
			if n := modelCost(c, in, l); (cost < 0 || n < cost) && forest.Has(g, l) {
				best, cost = l, n
			}
			for t := range g.Terms {
				next = append(next, append(slices.Clone(l), t))
			}
		}
		lists = next
	}
	return best, cost, true
}

// P90: of many lists what the model says.
func TestCostByModel(t *testing.T) {
	d := &dice{seed: 90}
	for range 20000 {
		terms := 1 + d.next(4)
		c := d.costs(terms, 1+d.next(9))
		from, to := d.list(terms, 7), d.list(terms, 7)
		if got, want := repair.Cost(c, from, to), modelCost(c, from, to); got != want {
			t.Fatalf("%+v: %v to %v costs %d, want %d", c, from, to, got, want)
		}
	}
}

// P91: of many grammars what the model says.
func TestMendByModel(t *testing.T) {
	d, seen := &dice{seed: 91}, map[string]int{}
	for range 8000 {
		g := d.grammar()
		c, in := d.costs(g.Terms, 1+d.next(3)), d.list(g.Terms, 5)
		l, cost, err := repair.Mend(g, c, in)
		if err == api.ErrRule {
			seen["no sentence"]++
			for range 5 {
				if any := d.list(g.Terms, 4); forest.Has(g, any) {
					t.Fatalf("%+v has the sentence %v", g, any)
				}
			}
			continue
		}
		want, wantCost, done := modelMend(g, c, in)
		if !done {
			seen["too many"]++
			continue
		}
		if err != nil || cost != wantCost || !slices.Equal(l, want) {
			t.Fatalf("%+v, %+v, %v: %v at %d, %v, want %v at %d", g, c, in, l, cost, err, want, wantCost)
		}
		switch {
		case cost == 0:
			seen["as it is"]++
		case len(l) > len(in):
			seen["longer"]++
		case len(l) < len(in):
			seen["shorter"]++
		default:
			seen["as long"]++
		}
	}
	for _, kind := range []string{"no sentence", "as it is", "longer", "shorter", "as long"} {
		if seen[kind] < 100 {
			t.Errorf("%s: only %d", kind, seen[kind])
		}
	}
}
