package grammar_test

import (
	"slices"
	"testing"

	"grammarsmith/api"
	"grammarsmith/grammar"
	"grammarsmith/marks"
)

// The model answers by sentences: a machine reads them terminal by terminal, and of each name is found from which of its states to which ones the sentences of all its trees lead. Where a node's place matters, a terminal more is put into the trees.

// machine leads from a state by a terminal to another one.
type machine struct {
	states int
	step   func(state, term int) int
}

// way leads from a state of a machine to another one.
type way struct{ from, to int }

// ways finds for each name by which ways its sentences lead.
func (m machine) ways(g api.Grammar) []map[way]bool {
	out := make([]map[way]bool, g.Names)
	for n := range out {
		out[n] = map[way]bool{}
	}
	for changed := true; changed; {
		changed = false
		for _, p := range g.Prods {
			for from := range m.states {
				for to := range m.through(p.Right, from, out) {
					if w := (way{from, to}); !out[p.Left][w] {
						out[p.Left][w], changed = true, true
					}
				}
			}
		}
	}
	return out
}

// through gives the states to which a row of symbols leads.
func (m machine) through(symbols []int, from int, names []map[way]bool) map[int]bool {
	at := map[int]bool{from: true}
	for _, s := range symbols {
		next := map[int]bool{}
		for state := range at {
			if s >= 0 {
				next[m.step(state, s)] = true
				continue
			}
			for w := range names[-1-s] {
				if w.from == state {
					next[w.to] = true
				}
			}
		}
		at = next
	}
	return at
}

// withMark gives a grammar whose name Names+n has the trees of n in which one place is marked, as further productions say.
func withMark(g api.Grammar, further ...api.Prod) api.Grammar {
	out := api.Grammar{Terms: g.Terms + 1, Names: 2 * g.Names, Prods: slices.Concat(g.Prods, further)}
	for _, p := range g.Prods {
		for i, s := range p.Right {
			if s < 0 {
				right := slices.Clone(p.Right)
				right[i] = s - g.Names
				out.Prods = append(out.Prods, api.Prod{Left: p.Left + g.Names, Right: right})
			}
		}
	}
	return out
}

// anything has but one state: it tells whether there are sentences.
func anything() machine {
	return machine{1, func(int, int) int { return 0 }}
}

// opener remembers the first terminal.
func opener(terms int) machine {
	return machine{terms + 1, func(state, term int) int {
		if state == 0 {
			return term + 1
		}
		return state
	}}
}

// follower remembers the terminal behind the mark, which is the last one: in state 0 it has not come, in state 1 nothing has come behind it.
func follower(mark int) machine {
	return machine{mark + 2, func(state, term int) int {
		switch {
		case state == 0 && term == mark:
			return 1
		case state == 1:
			return term + 2
		}
		return state
	}}
}

func modelLives(g api.Grammar) []bool {
	var out []bool
	for _, w := range anything().ways(g) {
		out = append(out, len(w) > 0)
	}
	return out
}

func modelUsed(g api.Grammar) []bool {
	out := []bool{}
	for _, p := range g.Prods {
		marked := withMark(g, api.Prod{Left: p.Left + g.Names, Right: p.Right})
		out = append(out, len(anything().ways(marked)[g.Start+g.Names]) > 0)
	}
	return out
}

// modelFirst gives Empty, too.
func modelFirst(g api.Grammar) (first [][]int, empty []bool) {
	for _, w := range opener(g.Terms).ways(g) {
		var l []int
		for t := range g.Terms {
			if w[way{0, t + 1}] {
				l = append(l, t)
			}
		}
		first, empty = append(first, l), append(empty, w[way{0, 0}])
	}
	return first, empty
}

func modelFollow(g api.Grammar) [][]int {
	var out [][]int
	for n := range g.Names {
		marked := withMark(g, api.Prod{Left: n + g.Names, Right: []int{-1 - n, g.Terms}})
		w := follower(g.Terms).ways(marked)[g.Start+g.Names]
		var l []int
		for t := range g.Terms {
			if w[way{0, t + 2}] {
				l = append(l, t)
			}
		}
		if w[way{0, 1}] {
			l = append(l, g.Terms)
		}
		out = append(out, l)
	}
	return out
}

// modelLoops puts the mark instead of a node within one of the same name: nothing else may be left of the sentence.
func modelLoops(g api.Grammar) []bool {
	lives := modelLives(g)
	var out []bool
	for n := range g.Names {
		marked := withMark(g, api.Prod{Left: n + g.Names, Right: []int{g.Terms}})
		top := marked.Names
		marked.Names++
		for _, p := range marked.Prods {
			if p.Left == n+g.Names && !slices.Equal(p.Right, []int{g.Terms}) {
				marked.Prods = append(marked.Prods, api.Prod{Left: top, Right: p.Right})
			}
		}
		counts := machine{3, func(state, _ int) int { return min(state+1, 2) }}
		out = append(out, lives[n] && counts.ways(marked)[top][way{0, 1}])
	}
	return out
}

// inOrder compares sentences: the shortest go ahead, then the first in order.
func inOrder(a, b string) int {
	if len(a) != len(b) {
		return len(a) - len(b)
	}
	return slices.Compare([]byte(a), []byte(b))
}

// modelSentences finds for each name all sentences of at most so many terminals, each terminal as a letter, in order.
func modelSentences(g api.Grammar, most int) [][]string {
	known := make([]map[string]bool, g.Names)
	for n := range known {
		known[n] = map[string]bool{}
	}
	for changed := true; changed; {
		changed = false
		for _, p := range g.Prods {
			for s := range modelRow(p.Right, known, most) {
				if !known[p.Left][s] {
					known[p.Left][s], changed = true, true
				}
			}
		}
	}
	out := make([][]string, g.Names)
	for n := range known {
		for s := range known[n] {
			out[n] = append(out[n], s)
		}
		slices.SortFunc(out[n], inOrder)
	}
	return out
}

func modelRow(symbols []int, known []map[string]bool, most int) map[string]bool {
	at := map[string]bool{"": true}
	for _, s := range symbols {
		parts := map[string]bool{}
		if s >= 0 {
			parts[string(rune('a'+s))] = true
		} else {
			parts = known[-1-s]
		}
		next := map[string]bool{}
		for a := range at {
			for b := range parts {
				if len(a)+len(b) <= most {
					next[a+b] = true
				}
			}
		}
		at = next
	}
	return at
}

// tally counts how often something held and how often not: a test of what is always the same says little.
type tally map[string][2]int

func (c tally) add(what string, l []bool) {
	for _, held := range l {
		n := c[what]
		if held {
			n[1]++
		} else {
			n[0]++
		}
		c[what] = n
	}
}

// P51, P52, P54: of many grammars what the model says.
func TestFactsByModel(t *testing.T) {
	d, seen := &dice{seed: 7}, tally{}
	for range 4000 {
		g := d.grammar()
		a := ask(g)
		first, empty := modelFirst(g)
		for what, l := range map[string][2][]bool{"Lives": {a.Lives, modelLives(g)}, "Used": {a.Used, modelUsed(g)}, "Empty": {a.Empty, empty}, "Loops": {a.Loops, modelLoops(g)}} {
			if !slices.Equal(l[0], l[1]) {
				t.Fatalf("%s of %+v: %v, want %v", what, g, l[0], l[1])
			}
			seen.add(what, l[1])
		}
		if !sameSets(a.First, first) {
			t.Fatalf("First of %+v: %v, want %v", g, a.First, first)
		}
		if want := modelFollow(g); !sameSets(a.Follow, want) {
			t.Fatalf("Follow of %+v: %v, want %v", g, a.Follow, want)
		}
	}
	for what, n := range seen {
		if min(n[0], n[1]) < 500 {
			t.Errorf("%s: %d false, %d true", what, n[0], n[1])
		}
	}
}

// P53: of many grammars what the model says, of short sentences.
func TestShortestByModel(t *testing.T) {
	const most = 5
	d, seen := &dice{seed: 8}, tally{}
	for i := range 8000 {
		g := d.grammar()
		if i%2 == 0 {
			g = d.grammarOf(14, 1) // of one length there are more of those that are not empty
		}
		a := ask(g)
		for n, l := range modelSentences(g, most) {
			short, told, found := a.Short[n], a.ShortestAll[n+1], a.Found[n+1]
			seen.add("told", []bool{len(l) > 0})
			if len(l) == 0 {
				if short != -1 && short <= most || (short != -1) != a.Lives[n] || found != a.Lives[n] || len(told) != max(short, 0) {
					t.Fatalf("%d of %+v: %d, %v, %v", n, g, short, told, found)
				}
				continue
			}
			if short != len(l[0]) || !found || !slices.Equal(told, terms(l[0], 0)) {
				t.Fatalf("%d of %+v: %d, %v, %v, want %q", n, g, short, told, found, l[0])
			}
			seen.add("several", []bool{len(l) > 1 && len(l[1]) == len(l[0])})
		}
	}
	for what, n := range seen {
		if min(n[0], n[1]) < 500 {
			t.Errorf("%s: %d false, %d true", what, n[0], n[1])
		}
	}
}

// How rests of productions begin, held against the ways of a machine that remembers the first terminal.
func TestOpeningsByModel(t *testing.T) {
	d := &dice{seed: 14}
	kinds := map[string]int{}
	for range 3000 {
		g := d.grammar()
		m := opener(g.Terms)
		names, got := m.ways(g), grammar.Openings(g)
		if len(got) != len(g.Prods) {
			t.Fatalf("%+v: openings of %d productions", g, len(got))
		}
		for i, p := range g.Prods {
			if len(got[i]) != len(p.Right)+1 {
				t.Fatalf("%+v: %d openings of production %d", g, len(got[i]), i)
			}
			for k, o := range got[i] {
				var want grammar.Opening
				for state := range m.through(p.Right[k:], 0, names) {
					if state == 0 {
						want.Empty = true
					} else {
						want.Terms = want.Terms.With(state - 1)
					}
				}
				if o != want {
					t.Fatalf("%+v: the rest of production %d from %d on: %v, want %v", g, i, k, o, want)
				}
				looks := marks.Of(g.Terms)
				if o.Empty != o.Then(looks).Has(g.Terms) || o.Then(looks).Join(o.Terms) != o.Then(looks) || o.Then(o.Terms) != o.Terms {
					t.Fatalf("%+v: %v is followed by %v", g, o, o.Then(looks))
				}
				kinds[openingKind(o)]++
			}
		}
	}
	for _, kind := range []string{"none", "empty", "terms", "both"} {
		if kinds[kind] < 500 {
			t.Errorf("%s: only %d", kind, kinds[kind])
		}
	}
	if got := grammar.Openings(api.Grammar{Names: -1, Prods: []api.Prod{{}}}); len(got) != 0 {
		t.Errorf("of a grammar that is not valid: %v", got)
	}
}

func openingKind(o grammar.Opening) string {
	switch {
	case o == grammar.Opening{}:
		return "none"
	case o.Terms == marks.Set{}:
		return "empty"
	case o.Empty:
		return "both"
	}
	return "terms"
}
