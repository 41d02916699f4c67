package grammar_test

import (
	"math"
	"reflect"
	"slices"
	"testing"

	"grammarsmith/api"
	"grammarsmith/grammar"
)

// roomy gives a list that has room behind its end, where marks show who writes there.
func roomy[T any](l []T, mark T) []T {
	out := append(slices.Clone(l), mark, mark, mark)
	return out[:len(l)]
}

// spacious has room behind all of its lists.
func spacious(g api.Grammar) api.Grammar {
	g.Levels, g.Sides = roomy(g.Levels, 77), roomy(g.Sides, 77)
	g.Prods = roomy(g.Prods, api.Prod{Left: 77})
	for i := range g.Prods {
		g.Prods[i].Right = roomy(g.Prods[i].Right, 77)
	}
	return g
}

// deep is a copy with what stands behind the ends of the lists.
func deep(g api.Grammar) api.Grammar {
	g.Levels, g.Sides = slices.Clone(g.Levels[:cap(g.Levels)]), slices.Clone(g.Sides[:cap(g.Sides)])
	g.Prods = slices.Clone(g.Prods[:cap(g.Prods)])
	for i, p := range g.Prods {
		g.Prods[i].Right = slices.Clone(p.Right[:cap(p.Right)])
	}
	return g
}

// P4: a grammar that is handed in stays as it is, also behind the ends of its lists.
func TestGrammarStays(t *testing.T) {
	wrong := levelled()
	wrong.Prods[2].Left = 9
	for _, g := range []api.Grammar{levelled(), wrong, of(t, "S : A B S | ; A : a | B; B : S | T; T : T"), of(t, "S")} {
		g = spacious(g)
		ahead := deep(g)
		ask(g)
		if !reflect.DeepEqual(deep(g), ahead) {
			t.Errorf("has changed: %+v, was %+v", g, ahead)
		}
	}
}

// scribble writes into all of a list, also behind its end.
func scribble[T any](l []T, v T) {
	l = l[:cap(l)]
	for i := range l {
		l[i] = v
	}
}

// P4: answers share no memory, neither with one another nor with the grammar.
func TestAnswersAreNew(t *testing.T) {
	g := of(t, "S : A B S | ; A : a | b | B; B : S | T | c; T : T")
	want := ask(g)
	a := ask(g)
	for _, l := range [][]bool{a.Lives, a.Used, a.Empty, a.Loops} {
		scribble(l, true)
		scribble(l, false)
	}
	scribble(a.Short, 99)
	for i, lists := range [][][]int{a.First, a.Follow, a.ShortestAll} {
		kept := [][][]int{want.First, want.Follow, want.ShortestAll}[i]
		for k := range lists {
			if !slices.Equal(lists[k], kept[k]) {
				t.Errorf("list %d of %d was written into: %v", k, i, lists[k])
			}
			scribble(lists[k], 99)
		}
		scribble(lists, nil)
	}
	checkSame(t, "asked again", ask(g), want)
	kept := ask(g)
	for i := range g.Prods {
		scribble(g.Prods[i].Right, 99)
	}
	scribble(g.Prods, api.Prod{Left: 99})
	checkSame(t, "of a grammar that has changed since", kept, want)
}

// P2: the same is answered each time.
func TestSameEachTime(t *testing.T) {
	d := &dice{seed: 9}
	for range 50 {
		g := d.grammar()
		want := ask(g)
		for range 10 {
			checkSame(t, "asked again", ask(g), want)
		}
	}
}

// P3: a nil list and an empty one are one thing.
func TestNilAndEmpty(t *testing.T) {
	for _, g := range []api.Grammar{of(t, "S : A | ; A : S a |"), of(t, "S")} {
		want := ask(g)
		full := g
		full.Levels, full.Sides = []int{}, []int{}
		full.Prods = append([]api.Prod{}, g.Prods...)
		for i, p := range full.Prods {
			full.Prods[i].Right = append([]int{}, p.Right...)
		}
		checkSame(t, "with empty lists", ask(full), want)
	}
}

// P1: no call panics, whatever it is given.
func TestNothingPanics(t *testing.T) {
	d := &dice{seed: 10}
	odd := []int{0, 0, 1, 1, 2, 3, -1, -2, -3, api.MaxSyms, api.MaxSyms + 1, 1 << 40, math.MinInt, math.MaxInt}
	one := func() int { return odd[d.next(len(odd))] }
	list := func() []int {
		var out []int
		for range d.next(4) {
			out = append(out, one())
		}
		return out
	}
	valid := 0
	for range 20000 {
		g := d.grammar()
		for range d.next(3) {
			switch d.next(7) {
			case 0:
				g.Terms = one()
			case 1:
				g.Names = one()
			case 2:
				g.Start = one()
			case 3:
				g.Levels = list()
			case 4:
				g.Sides = list()
			case 5:
				g.Prods = append(g.Prods, api.Prod{Left: one(), Right: list(), Level: one()})
			case 6:
				g.Prods = nil
			}
		}
		if !grammar.Ok(g) {
			checkNothing(t, "wrong", g)
			continue
		}
		valid++
		if g.Names < 9 {
			checkValid(t, "valid", g)
		}
	}
	if valid < 2000 {
		t.Errorf("only %d were valid", valid)
	}
}

// large are grammars of as much as may be, in which facts come from far.
func large() map[string]api.Grammar {
	down := api.Grammar{Terms: api.MaxSyms, Names: api.MaxSyms}
	up := api.Grammar{Terms: api.MaxSyms, Names: api.MaxSyms}
	dense := api.Grammar{Terms: api.MaxSyms, Names: api.MaxSyms}
	for n := range api.MaxSyms {
		down.Prods = append(down.Prods, api.Prod{Left: n, Right: row(-1-(n+1)%api.MaxSyms, api.MaxRight)})
		up.Prods = append(up.Prods, api.Prod{Left: n, Right: row(-1-(n+api.MaxSyms-1)%api.MaxSyms, api.MaxRight)})
		p := api.Prod{Left: n, Right: []int{5}}
		for k := range api.MaxRight {
			if n > 0 {
				p.Right = append(p.Right[:k], -1-(n*7+k*31)%n)
			}
		}
		dense.Prods = append(dense.Prods, p)
	}
	dense.Start = api.MaxSyms - 1
	for n := range api.MaxProds - api.MaxSyms {
		down.Prods = append(down.Prods, api.Prod{Left: 3 * n, Right: []int{299 - n}})
		up.Prods = append(up.Prods, api.Prod{Left: 299 - 3*n, Right: []int{299 - n}})
		dense.Prods = append(dense.Prods, api.Prod{Left: 3 * n, Right: row(n, n%3)})
	}
	return map[string]api.Grammar{"down": down, "up": up, "dense": dense}
}

// P1: each call ends, and soon, also for grammars of as much as may be.
func TestLargeGrammars(t *testing.T) {
	for name, g := range large() {
		a := ask(g)
		if slices.Contains(a.Lives, false) {
			t.Errorf("%s: Lives", name)
		}
		for n := range g.Names {
			if a.Short[n] <= 1000 != a.Found[n+1] || a.Found[n+1] && len(a.ShortestAll[n+1]) != a.Short[n] {
				t.Errorf("%s: name %d: Short %d, Shortest of %d, %v", name, n, a.Short[n], len(a.ShortestAll[n+1]), a.Found[n+1])
			}
		}
	}
}
