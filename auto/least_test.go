package auto_test

import (
	"testing"

	"grammarsmith/api"
	"grammarsmith/auto"
)

// P32: ordinary automata and the edges, by their answers.
func TestLeast(t *testing.T) {
	const last = api.MaxPoint
	for _, c := range []struct {
		name string
		a    states
		want states
	}{
		{"no states", nil, nil},
		{"nothing is taken", states{{Rule: -1, Moves: moves{{Lo: 1, Hi: 2, To: 0}}}}, nil},
		{"nothing is taken, by many", states{{Rule: -1, Moves: moves{{Lo: 1, Hi: 2, To: 1}}}, {Rule: -1, Moves: moves{{Lo: 1, Hi: 2, To: 0}}}}, nil},
		{"what is taken is never come to", states{{Rule: -1}, {Rule: 0}}, nil},
		{"the empty text", states{{Rule: 3}}, states{{Rule: 3}}},
		{"never come to", states{{Rule: 3}, {Rule: 4, Moves: moves{{Lo: 1, Hi: 1, To: 0}}}}, states{{Rule: 3}}},
		{"a state from which nothing is taken", states{
			{Rule: 0, Moves: moves{{Lo: 1, Hi: 2, To: 1}, {Lo: 3, Hi: 4, To: 0}}}, {Rule: -1, Moves: moves{{Lo: 0, Hi: last, To: 1}}},
		}, states{{Rule: 0, Moves: moves{{Lo: 3, Hi: 4, To: 0}}}}},
		{"moves that touch", states{{Rule: 0, Moves: moves{{Lo: 1, Hi: 2, To: 0}, {Lo: 3, Hi: 3, To: 0}, {Lo: 4, Hi: 9, To: 0}, {Lo: 11, Hi: 12, To: 0}}}},
			states{{Rule: 0, Moves: moves{{Lo: 1, Hi: 9, To: 0}, {Lo: 11, Hi: 12, To: 0}}}}},
		{"moves that touch when two states are one", states{
			{Rule: -1, Moves: moves{{Lo: 1, Hi: 2, To: 1}, {Lo: 3, Hi: 4, To: 2}, {Lo: 5, Hi: 5, To: 1}}}, {Rule: 0}, {Rule: 0},
		}, states{{Rule: -1, Moves: moves{{Lo: 1, Hi: 5, To: 1}}}, {Rule: 0}}},
		{"different rules stay apart", states{
			{Rule: -1, Moves: moves{{Lo: 1, Hi: 2, To: 1}, {Lo: 3, Hi: 4, To: 2}}}, {Rule: 9}, {Rule: 2},
		}, states{{Rule: -1, Moves: moves{{Lo: 1, Hi: 2, To: 1}, {Lo: 3, Hi: 4, To: 2}}}, {Rule: 9}, {Rule: 2}}},
		{"the order of the states", states{
			{Rule: -1, Moves: moves{{Lo: 1, Hi: 1, To: 3}, {Lo: 2, Hi: 2, To: 1}}},
			{Rule: 1, Moves: moves{{Lo: 5, Hi: 5, To: 2}}},
			{Rule: 2},
			{Rule: 3, Moves: moves{{Lo: 5, Hi: 5, To: 4}}},
			{Rule: 4},
		}, states{
			{Rule: -1, Moves: moves{{Lo: 1, Hi: 1, To: 1}, {Lo: 2, Hi: 2, To: 2}}},
			{Rule: 3, Moves: moves{{Lo: 5, Hi: 5, To: 3}}},
			{Rule: 1, Moves: moves{{Lo: 5, Hi: 5, To: 4}}},
			{Rule: 4},
			{Rule: 2},
		}},
		{"told apart by a half of a pair alone", states{
			{Rule: -1, Moves: moves{{Lo: 1, Hi: 1, To: 1}, {Lo: 2, Hi: 2, To: 2}}}, {Rule: 0, Moves: moves{{Lo: 0xDABC, Hi: 0xDABC, To: 1}}}, {Rule: 0},
		}, states{
			{Rule: -1, Moves: moves{{Lo: 1, Hi: 1, To: 1}, {Lo: 2, Hi: 2, To: 2}}}, {Rule: 0, Moves: moves{{Lo: 0xDABC, Hi: 0xDABC, To: 1}}}, {Rule: 0},
		}},
		{"two rings that are one", states{
			{Rule: 0, Moves: moves{{Lo: 7, Hi: 7, To: 1}}}, {Rule: -1, Moves: moves{{Lo: 7, Hi: 7, To: 2}}},
			{Rule: 0, Moves: moves{{Lo: 7, Hi: 7, To: 3}}}, {Rule: -1, Moves: moves{{Lo: 7, Hi: 7, To: 0}}},
		}, states{{Rule: 0, Moves: moves{{Lo: 7, Hi: 7, To: 1}}}, {Rule: -1, Moves: moves{{Lo: 7, Hi: 7, To: 0}}}}},
	} {
		got := auto.Least(api.Auto{States: c.a})
		if !same(got, api.Auto{States: c.want}) {
			t.Errorf("%s: %v, want %v", c.name, got.States, c.want)
		}
		checkLeast(t, c.name, got)
	}
}

// P32: many automata: the least runs alike, is the least, and is the same for two just if they run alike.
func TestLeastOfManyAutomata(t *testing.T) {
	d := &dice{seed: 11}
	var all []api.Auto
	for i := range 600 {
		a := d.automaton(2+i%7, 1+i%3)
		least := auto.Least(a)
		if !runAlike(a, least) {
			t.Fatalf("runs otherwise: %v, %v", a, least)
		}
		checkLeast(t, "mixed", least)
		if again := auto.Least(least); !same(again, least) {
			t.Fatalf("the least of the least: %v, %v", least, again)
		}
		if other := auto.Least(blurred(a, d)); !same(other, least) {
			t.Fatalf("of one that runs alike: %v, %v", least, other)
		}
		all = append(all, a)
	}
	for i, a := range all[1:] {
		if runAlike(a, all[i]) != same(auto.Least(a), auto.Least(all[i])) {
			t.Fatalf("%v, %v", a, all[i])
		}
	}
}

// blurred gives an automaton that runs alike: each state stands there three times, in another order, and moves are cut.
func blurred(a api.Auto, d *dice) api.Auto {
	count := len(a.States)
	var out api.Auto
	for i := range 3 * count {
		s := a.States[i%count]
		copied := api.State{Rule: s.Rule}
		for _, m := range s.Moves {
			to := func() int { return m.To + count*d.next(3) }
			cut := m.Lo + (m.Hi-m.Lo)/2
			copied.Moves = append(copied.Moves, api.Move{Lo: m.Lo, Hi: cut, To: to()})
			if cut < m.Hi {
				copied.Moves = append(copied.Moves, api.Move{Lo: cut + 1, Hi: m.Hi, To: to()})
			}
		}
		out.States = append(out.States, copied)
	}
	return out
}

// P32: MaxStates states, all of them needed, or nearly none; told apart late, or by many points.
func TestLeastOfManyStates(t *testing.T) {
	const most = api.MaxStates
	if got := auto.Least(ring(most)); len(got.States) != most || !same(got, ring(most)) {
		t.Errorf("a ring: %d states", len(got.States))
	}
	twice := ring(most)
	twice.States[most/2].Rule = 0
	if got := auto.Least(twice); !same(got, ring(most/2)) {
		t.Errorf("a ring gone through twice: %d states", len(got.States))
	}
	all := ring(most)
	for i := range all.States {
		all.States[i].Rule = 0
	}
	if got := auto.Least(all); !same(got, ring(1)) {
		t.Errorf("a ring of ends: %d states", len(got.States))
	}
	var wide api.Auto
	for i := range most {
		s := api.State{Rule: i % 2}
		for p := range 2000 {
			s.Moves = append(s.Moves, api.Move{Lo: 2 * p, Hi: 2 * p, To: (i + p) % most})
		}
		wide.States = append(wide.States, s)
	}
	got := auto.Least(wide)
	if len(got.States) != 2 || len(got.States[0].Moves) != 2000 {
		t.Errorf("many moves: %d states", len(got.States))
	}
	line := ring(most)
	line.States[most-1] = api.State{Rule: 3}
	line.States[0].Rule = -1
	if got := auto.Least(line); !same(got, line) {
		t.Errorf("a line: %d states", len(got.States))
	}
}

// P4: what is handed in stays, and what is answered is new.
func TestLeastSharesNothing(t *testing.T) {
	for name, a := range validAutos() {
		kept := copyOf(a)
		first := auto.Least(a)
		want := copyOf(first)
		scribble(first)
		if !same(a, kept) {
			t.Errorf("%s: the argument has changed", name)
		}
		if !same(auto.Least(a), want) {
			t.Errorf("%s: the second answer is another one", name)
		}
	}
}

// scribble writes over all of an automaton, also behind the ends of its lists.
func scribble(a api.Auto) {
	for i := range a.States {
		l := a.States[i].Moves
		for k := range l[:cap(l)] {
			l[:cap(l)][k] = api.Move{Lo: -7, Hi: -7, To: -7}
		}
		a.States[i] = api.State{Rule: -7}
	}
}
