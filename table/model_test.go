package table_test

import (
	"cmp"
	"reflect"
	"slices"
	"strconv"
	"strings"
	"testing"

	"grammarsmith/api"
)

// The model goes by the chapter's words: sets of items with one look each, closed one by one; states of LR1 put together where they are the same but for looks.

type item struct{ prod, place, look int }

type set map[item]bool

type model struct {
	api.Grammar
	empty []bool
	first []map[int]bool
}

func modelOf(g api.Grammar) *model {
	m := &model{Grammar: g, empty: make([]bool, g.Names), first: make([]map[int]bool, g.Names)}
	for n := range m.first {
		m.first[n] = map[int]bool{}
	}
	for again := true; again; {
		again = false
		for _, p := range g.Prods {
			for look := range m.begins(p.Right, -1) {
				if look < 0 && !m.empty[p.Left] {
					m.empty[p.Left], again = true, true
				}
				if look >= 0 && !m.first[p.Left][look] {
					m.first[p.Left][look], again = true, true
				}
			}
		}
	}
	return m
}

// begins gives with what the sentences of a row, followed by a look, begin.
func (m *model) begins(row []int, look int) map[int]bool {
	if len(row) == 0 {
		return map[int]bool{look: true}
	}
	if row[0] >= 0 {
		return map[int]bool{row[0]: true}
	}
	out := map[int]bool{}
	for t := range m.first[-1-row[0]] {
		out[t] = true
	}
	if m.empty[-1-row[0]] {
		for t := range m.begins(row[1:], look) {
			out[t] = true
		}
	}
	return out
}

func (m *model) right(prod int) []int {
	if prod < 0 {
		return []int{-1 - m.Start}
	}
	return m.Prods[prod].Right
}

func (m *model) closed(s set) set {
	for again := true; again; {
		again = false
		for _, i := range listed(s) {
			right := m.right(i.prod)
			if i.place == len(right) || right[i.place] >= 0 {
				continue
			}
			for look := range m.begins(right[i.place+1:], i.look) {
				for p := range m.Prods {
					if more := (item{p, 0, look}); m.Prods[p].Left == -1-right[i.place] && !s[more] {
						s[more], again = true, true
					}
				}
			}
		}
	}
	return s
}

func listed(s set) []item {
	var out []item
	for i := range s {
		out = append(out, i)
	}
	slices.SortFunc(out, func(a, b item) int { return cmp.Or(a.prod-b.prod, a.place-b.place, a.look-b.look) })
	return out
}

// text tells sets apart, by looks too or without.
func text(s set, looks bool) string {
	var parts []string
	for _, i := range listed(s) {
		part := strconv.Itoa(i.prod) + "." + strconv.Itoa(i.place)
		if looks {
			part += "." + strconv.Itoa(i.look)
		}
		parts = append(parts, part)
	}
	return strings.Join(slices.Compact(parts), " ")
}

func (m *model) by(s set, symbol int) set {
	out := set{}
	for i := range s {
		if right := m.right(i.prod); i.place < len(right) && right[i.place] == symbol {
			out[item{i.prod, i.place + 1, i.look}] = true
		}
	}
	return m.closed(out)
}

func (m *model) symbols() []int {
	var out []int
	for t := range m.Terms {
		out = append(out, t)
	}
	for n := range m.Names {
		out = append(out, -1-n)
	}
	return out
}

// machine has states, and where they lead.
type machine struct {
	states []set
	ways   []map[int]int
}

func (m *model) lr1() machine {
	x := machine{states: []set{m.closed(set{item{-1, 0, m.Terms}: true})}}
	numbers := map[string]int{text(x.states[0], true): 0}
	for s := 0; s < len(x.states); s++ {
		x.ways = append(x.ways, map[int]int{})
		for _, symbol := range m.symbols() {
			next := m.by(x.states[s], symbol)
			if len(next) == 0 {
				continue
			}
			n, met := numbers[text(next, true)]
			if !met {
				n = len(x.states)
				numbers[text(next, true)] = n
				x.states = append(x.states, next)
			}
			x.ways[s][symbol] = n
		}
	}
	return x
}

// lalr puts the states of LR1 together, and goes through what they have become.
func (m *model) lalr(x machine) machine {
	alike := map[string][]int{}
	for s, one := range x.states {
		alike[text(one, false)] = append(alike[text(one, false)], s)
	}
	var out machine
	numbers := map[string]int{}
	number := func(s int) int {
		core := text(x.states[s], false)
		n, met := numbers[core]
		if !met {
			n = len(out.states)
			numbers[core] = n
			all := set{}
			for _, one := range alike[core] {
				for i := range x.states[one] {
					all[i] = true
				}
			}
			out.states = append(out.states, all)
		}
		return n
	}
	number(0)
	for s := 0; s < len(out.states); s++ {
		out.ways = append(out.ways, map[int]int{})
		one := alike[text(out.states[s], false)][0]
		for _, symbol := range m.symbols() {
			if next, is := x.ways[one][symbol]; is {
				out.ways[s][symbol] = number(next)
			}
		}
	}
	return out
}

func (m *model) table(x machine) api.Table {
	var out api.Table
	for s := range x.states {
		acts, gotos := make([]api.Act, m.Terms+1), make([]int, m.Names)
		for t := range acts {
			acts[t] = m.act(x, s, t, &out.Conflicts)
		}
		for n := range gotos {
			to, is := x.ways[s][-1-n]
			if !is {
				to = -1
			}
			gotos[n] = to
		}
		out.Acts, out.Gotos = append(out.Acts, acts), append(out.Gotos, gotos)
	}
	slices.SortFunc(out.Conflicts, func(a, b api.Conflict) int {
		return cmp.Or(a.State-b.State, a.Term-b.Term, a.Kind-b.Kind, a.B-b.B)
	})
	return out
}

func (m *model) act(x machine, s, t int, conflicts *[]api.Conflict) api.Act {
	var prods []int
	for _, i := range listed(x.states[s]) {
		if i.look == t && i.place == len(m.right(i.prod)) {
			prods = append(prods, i.prod)
		}
	}
	to, shift := x.ways[s][t]
	for i, p := range prods {
		if i > 0 {
			*conflicts = append(*conflicts, api.Conflict{State: s, Term: t, Kind: 2, A: prods[0], B: p})
		}
	}
	switch {
	case len(prods) == 0 && !shift:
		return api.Act{}
	case len(prods) == 0:
		return api.Act{Kind: api.ActShift, To: to}
	case prods[0] == -1:
		return api.Act{Kind: api.ActAccept}
	case shift:
		return m.shiftOrReduce(api.Conflict{State: s, Term: t, Kind: 1, A: -1, B: prods[0]}, to, conflicts)
	}
	return api.Act{Kind: api.ActReduce, To: prods[0]}
}

func (m *model) shiftOrReduce(c api.Conflict, to int, conflicts *[]api.Conflict) api.Act {
	shift, reduce := api.Act{Kind: api.ActShift, To: to}, api.Act{Kind: api.ActReduce, To: c.B}
	l, of := m.Prods[c.B].Level, 0
	if len(m.Levels) > 0 {
		of = m.Levels[c.Term]
	}
	if l == 0 || of == 0 {
		*conflicts = append(*conflicts, c)
		return shift
	}
	if l != of {
		return map[bool]api.Act{true: reduce, false: shift}[l > of]
	}
	return map[int]api.Act{api.ToLeft: reduce, api.ToRight: shift, api.ToNone: {}}[m.Sides[l-1]]
}

// sameTable: a nil list and an empty one are one thing.
func sameTable(a, b api.Table) bool {
	return reflect.DeepEqual(a.Acts, b.Acts) && reflect.DeepEqual(a.Gotos, b.Gotos) && slices.Equal(a.Conflicts, b.Conflicts)
}

// tally counts what the grammars of the test have shown.
type tally map[string]int

func (s tally) add(what string, is bool) {
	if is {
		s[what]++
	}
}

func (s tally) see(g api.Grammar, x, y api.Table) {
	s.add("states put together", len(x.Acts) > len(y.Acts))
	s.add("no conflicts", len(x.Conflicts) == 0 && len(y.Conflicts) == 0)
	s.add("conflicts of LALR alone", len(x.Conflicts) == 0 && len(y.Conflicts) > 0)
	kinds := [3]int{}
	for _, c := range x.Conflicts {
		kinds[c.Kind]++
		s.add("accept or reduce", c.Kind == 2 && c.A == -1)
		s.add("by the end", c.Term == g.Terms)
	}
	s.add("kind 1", kinds[1] > 0)
	s.add("kind 2", kinds[2] > 0)
	s.add("both kinds", kinds[1] > 0 && kinds[2] > 0)
}

// P61 to P64: tables of small grammars, held against the model.
func TestTablesByModel(t *testing.T) {
	d := &dice{seed: 61}
	seen := tally{}
	for i := range 4000 {
		g := d.grammar()
		if i%4 == 0 {
			g = d.twins()
		}
		m := modelOf(g)
		states := m.lr1()
		if len(states.states) > 300 {
			continue
		}
		x, y := made(t, makers[0], g), made(t, makers[1], g)
		if want := m.table(states); !sameTable(x, want) {
			t.Fatalf("LR1 of %+v:\n%q %q, want\n%q %q", g, told(g, x), clashes(g, x), told(g, want), clashes(g, want))
		}
		if want := m.table(m.lalr(states)); !sameTable(y, want) {
			t.Fatalf("LALR of %+v:\n%q %q, want\n%q %q", g, told(g, y), clashes(g, y), told(g, want), clashes(g, want))
		}
		seen.see(g, x, y)
		plain := g
		plain.Levels = nil
		z := made(t, makers[0], plain)
		seen.add("decided by levels", len(z.Conflicts) > len(x.Conflicts))
		seen.add("neither", slices.Index(kindsOf(x), api.ActNone) != slices.Index(kindsOf(z), api.ActNone))
	}
	for _, what := range []string{"conflicts of LALR alone", "states put together", "no conflicts", "kind 1", "kind 2", "both kinds", "accept or reduce", "by the end", "decided by levels"} {
		if seen[what] < 100 {
			t.Errorf("%s: only %d", what, seen[what])
		}
	}
	if seen["neither"] < 10 {
		t.Errorf("neither: only %d", seen["neither"])
	}
}

func kindsOf(x api.Table) []int {
	var out []int
	for _, acts := range x.Acts {
		for _, a := range acts {
			out = append(out, a.Kind)
		}
	}
	return out
}
