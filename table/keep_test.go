package table_test

import (
	"math"
	"reflect"
	"slices"
	"testing"

	"grammarsmith/api"
	"grammarsmith/grammar"
)

// roomy gives a list that has room behind its end, where marks show who writes there.
func roomy[T any](l []T, mark T) []T {
	out := append(slices.Clone(l), mark, mark, mark)
	return out[:len(l)]
}

// spacious has room behind all of its lists.
func spacious(g api.Grammar) api.Grammar {
	g.Levels, g.Sides = roomy(g.Levels, 77), roomy(g.Sides, 77)
	g.Prods = roomy(g.Prods, api.Prod{Left: 77})
	for i := range g.Prods {
		g.Prods[i].Right = roomy(g.Prods[i].Right, 77)
	}
	return g
}

// deep is a copy with what stands behind the ends of the lists.
func deep(g api.Grammar) api.Grammar {
	g.Levels, g.Sides = slices.Clone(g.Levels[:cap(g.Levels)]), slices.Clone(g.Sides[:cap(g.Sides)])
	g.Prods = slices.Clone(g.Prods[:cap(g.Prods)])
	for i, p := range g.Prods {
		g.Prods[i].Right = slices.Clone(p.Right[:cap(p.Right)])
	}
	return g
}

// levelled has levels, conflicts of both kinds, and states that LALR puts together.
func levelled(t *testing.T) api.Grammar {
	g := of(t, "S : a A d | b B d | a B e | b A e | S a S | S b S; A : c; B : c")
	g.Sides, g.Levels = []int{api.ToLeft, api.ToNone}, []int{1, 0, 2, 2, 0}
	g.Prods[4].Level, g.Prods[5].Level = 1, 2
	return g
}

// P4: a grammar that is handed in stays as it is, also behind the ends of its lists.
func TestGrammarStays(t *testing.T) {
	wrong := levelled(t)
	wrong.Prods[2].Left = 9
	unused := levelled(t)
	unused.Prods[0].Left = 1
	for _, g := range []api.Grammar{levelled(t), wrong, unused, chain(api.MaxTable + 1), of(t, "S :"), of(t, "S")} {
		g = spacious(g)
		ahead := deep(g)
		for _, m := range makers {
			m.of(g)
			if !reflect.DeepEqual(deep(g), ahead) {
				t.Errorf("%s: has changed: %+v, was %+v", m.name, g, ahead)
			}
		}
	}
}

// scribble writes into all of a list, also behind its end.
func scribble[T any](l []T, v T) {
	l = l[:cap(l)]
	for i := range l {
		l[i] = v
	}
}

// P4: answers share no memory, neither with one another nor with the grammar.
func TestAnswersAreNew(t *testing.T) {
	g := levelled(t)
	for _, m := range makers {
		want, x := made(t, m, g), made(t, m, g)
		if len(want.Conflicts) == 0 {
			t.Errorf("%s: no conflicts", m.name)
		}
		for s := range x.Acts {
			if !slices.Equal(x.Acts[s], want.Acts[s]) || !slices.Equal(x.Gotos[s], want.Gotos[s]) {
				t.Errorf("%s: state %d was written into: %v, %v", m.name, s, x.Acts[s], x.Gotos[s])
			}
			scribble(x.Acts[s], api.Act{Kind: 99})
			scribble(x.Gotos[s], 99)
		}
		scribble(x.Acts, nil)
		scribble(x.Gotos, nil)
		scribble(x.Conflicts, api.Conflict{})
		if !sameTable(made(t, m, g), want) {
			t.Errorf("%s: asked again", m.name)
		}
	}
	kept := []api.Table{made(t, makers[0], g), made(t, makers[1], g)}
	for i := range g.Prods {
		scribble(g.Prods[i].Right, 99)
	}
	scribble(g.Prods, api.Prod{Left: 99})
	scribble(g.Levels, 99)
	scribble(g.Sides, 99)
	for i, m := range makers {
		if !sameTable(kept[i], made(t, m, levelled(t))) {
			t.Errorf("%s: of a grammar that has changed since", m.name)
		}
	}
}

// P2: the same is answered each time.
func TestSameEachTime(t *testing.T) {
	d := &dice{seed: 9}
	for range 50 {
		g := d.grammar()
		for _, m := range makers {
			want := made(t, m, g)
			for range 10 {
				if !sameTable(made(t, m, g), want) {
					t.Fatalf("%s of %+v: asked again", m.name, g)
				}
			}
		}
	}
}

// P3: a nil list and an empty one are one thing.
func TestNilAndEmpty(t *testing.T) {
	g := of(t, "S : A | ; A : S a |")
	full := g
	full.Levels, full.Sides = []int{}, []int{}
	full.Prods = slices.Clone(g.Prods)
	for i, p := range full.Prods {
		full.Prods[i].Right = append([]int{}, p.Right...)
	}
	none, empty := of(t, "S"), of(t, "S")
	none.Prods, empty.Prods = nil, []api.Prod{}
	for _, m := range makers {
		if !sameTable(made(t, m, full), made(t, m, g)) {
			t.Errorf("%s: with empty lists", m.name)
		}
		for _, g := range []api.Grammar{none, empty} {
			x, err := m.of(g)
			checkFault(t, m.name, x, err, api.ErrRule, 0)
		}
	}
}

// P1: no call panics, whatever it is given; and with an error there is no table.
func TestNothingPanics(t *testing.T) {
	d := &dice{seed: 10}
	odd := []int{0, 0, 1, 1, 2, 3, -1, -2, -3, api.MaxSyms, api.MaxSyms + 1, 1 << 40, math.MinInt, math.MaxInt}
	one := func() int { return odd[d.next(len(odd))] }
	list := func() []int {
		var out []int
		for range d.next(4) {
			out = append(out, one())
		}
		return out
	}
	seen := [3]int{}
	for range 20000 {
		g := d.wild()
		for range d.next(3) {
			switch d.next(7) {
			case 0:
				g.Terms = one()
			case 1:
				g.Names = one()
			case 2:
				g.Start = one()
			case 3:
				g.Levels = list()
			case 4:
				g.Sides = list()
			case 5:
				g.Prods = append(g.Prods, api.Prod{Left: one(), Right: list(), Level: one()})
			case 6:
				g.Prods = nil
			}
		}
		for _, m := range makers {
			x, err := m.of(g)
			switch {
			case err == nil:
				checkShape(t, g, x)
				seen[0]++
			case err == api.ErrSyntax && !grammar.Ok(g):
				checkNone(t, m.name, x)
				seen[1]++
			default:
				checkFault(t, m.name, x, err, api.ErrRule, err.(*api.Fault).At)
				seen[2]++
			}
		}
	}
	if slices.Min(seen[:]) < 2000 {
		t.Errorf("tables, not valid, not used: %v", seen)
	}
}

// large are grammars of as much as may be, of which states, looks or conflicts are many.
func large() map[string]api.Grammar {
	levels := api.Grammar{Terms: api.MaxSyms, Names: 150} // operators of 149 levels
	for i := range 149 {
		levels.Prods = append(levels.Prods, api.Prod{Left: i, Right: []int{-1 - i, i, -2 - i}}, api.Prod{Left: i, Right: []int{-2 - i}})
	}
	levels.Prods = append(levels.Prods, api.Prod{Left: 149, Right: []int{298, -1, 299}}, api.Prod{Left: 149, Right: []int{297}})
	pairs := api.Grammar{Terms: api.MaxSyms, Names: 1, Prods: []api.Prod{{Right: []int{-1, -1}}, {}}}
	for i := range api.MaxProds - 2 {
		pairs.Prods = append(pairs.Prods, api.Prod{Right: []int{i % api.MaxSyms}})
	}
	back := api.Grammar{Terms: api.MaxSyms, Names: 150} // looks go from each state to those ahead of it
	for i := 1; i < 150; i++ {
		back.Prods = append(back.Prods, api.Prod{Right: []int{-1 - i, 150 + i}}, api.Prod{Left: i, Right: []int{i, 0, 0, 0, 0, 0, 0, 0, 0, -max(i, 2)}})
	}
	back.Prods = append(back.Prods, api.Prod{Left: 1})
	return map[string]api.Grammar{"levels": levels, "pairs": pairs, "back": back, "chain": chain(api.MaxTable), "branches": branches(150, 20)}
}

// P1: each call ends, and soon, also for grammars of as much as may be.
func TestLargeGrammars(t *testing.T) {
	want := map[string][2]int{"levels": {904, 453}, "pairs": {303, 303}, "back": {0, 1790}, "chain": {2000, 2000}, "branches": {0, 472}}
	for name, g := range large() {
		for i, m := range makers {
			x, err := m.of(g)
			if len(x.Acts) != want[name][i] {
				t.Errorf("%s of %s: %d states, want %d", m.name, name, len(x.Acts), want[name][i])
			}
			if want[name][i] == 0 {
				checkFault(t, name, x, err, api.ErrBound, 0)
			}
		}
	}
}
