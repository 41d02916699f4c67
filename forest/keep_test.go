package forest_test

import (
	"math"
	"reflect"
	"slices"
	"testing"

	"grammarsmith/api"
	"grammarsmith/forest"
	"grammarsmith/grammar"
	"grammarsmith/parse"
)

// roomy gives a list that has room behind its end, where marks show who writes there.
func roomy[T any](l []T, mark T) []T {
	out := append(slices.Clone(l), mark, mark, mark)
	return out[:len(l)]
}

// whole is a copy of a list with what stands behind its end.
func whole[T any](l []T) []T {
	return slices.Clone(l[:cap(l)])
}

// scribble writes into all of a list, also behind its end.
func scribble[T any](l []T, v T) {
	l = l[:cap(l)]
	for i := range l {
		l[i] = v
	}
}

// spacious has room behind all of its lists.
func spacious(g api.Grammar) api.Grammar {
	g.Levels, g.Sides, g.Prods = roomy(g.Levels, 77), roomy(g.Sides, 77), roomy(g.Prods, api.Prod{Left: 77})
	for i := range g.Prods {
		g.Prods[i].Right = roomy(g.Prods[i].Right, 77)
	}
	return g
}

// deep is a copy with what stands behind the ends of the lists.
func deep(g api.Grammar) api.Grammar {
	g.Levels, g.Sides, g.Prods = whole(g.Levels), whole(g.Sides), whole(g.Prods)
	for i, p := range g.Prods {
		g.Prods[i].Right = whole(p.Right)
	}
	return g
}

// samples are grammars with sentences of one tree, of several, of no end, of none.
func samples(t *testing.T) []api.Grammar {
	levels := of(t, "SSaS SSbS Sa Sb")
	levels.Levels, levels.Sides = []int{1, 2}, []int{api.ToLeft, api.ToRight}
	levels.Prods[0].Level, levels.Prods[1].Level = 1, 2
	wrong := of(t, "SaSb S")
	wrong.Prods[1].Left = 9
	return []api.Grammar{
		levels, wrong, of(t, "SaSb S"), of(t, "SSS Sa Sb S"), of(t, "SAB A AB B BA Aa Bb"), of(t, "SSS Sa Sb"), of(t, "Sa Sb AA"), of(t, "SaS"),
	}
}

// P4: what is handed in stays as it is, also behind the ends of its lists.
func TestInputStays(t *testing.T) {
	for _, g := range samples(t) {
		for _, letters := range []string{"", "ab", "aba", "aabb", "a!"} {
			g, in := spacious(g), roomy(terms(letters), 77)
			aheadG, aheadIn := deep(g), whole(in)
			ask(g, in)
			if !reflect.DeepEqual(deep(g), aheadG) || !slices.Equal(whole(in), aheadIn) {
				t.Errorf("has changed: %+v, %v", g, whole(in))
			}
		}
	}
}

// nodesOf gives all nodes and leaves of trees.
func nodesOf(l []*api.Tree) []*api.Tree {
	var out []*api.Tree
	for _, r := range l {
		out = append(append(out, r), nodesOf(r.Kids)...)
	}
	return out
}

// P4: what is answered is new: no node stands twice, neither in one tree nor in two, no list has room in another one, and what is written into one changes no other one.
func TestAnswersAreNew(t *testing.T) {
	for _, g := range samples(t) {
		for _, letters := range []string{"", "ab", "aba", "aabb"} {
			in := terms(letters)
			want := ask(g, in).text()
			a, kept := ask(g, in), ask(g, in)
			met := map[*api.Tree]bool{}
			for _, r := range nodesOf(a.Trees) {
				if met[r] {
					t.Fatalf("%q of %+v: a node stands twice: %s", letters, g, parse.Show(r))
				}
				met[r] = true
			}
			for i, r := range a.Trees {
				for _, k := range nodesOf([]*api.Tree{r}) {
					k.Prod, k.Token = 99, 99
					scribble(k.Kids, nil)
				}
				if got := shown(a.Trees[i+1:]); !slices.Equal(got, shown(kept.Trees[i+1:])) {
					t.Fatalf("%q of %+v: written into tree %d: %v", letters, g, i, got)
				}
			}
			scribble(a.Trees, nil)
			scribble(a.Begins, 99)
			if got := kept.text(); got != want {
				t.Errorf("%q of %+v: has become %s, was %s", letters, g, got, want)
			}
			if got := ask(g, in).text(); got != want {
				t.Errorf("%q of %+v: asked again: %s, was %s", letters, g, got, want)
			}
		}
	}
}

// P4: what was handed in may be changed later.
func TestInputIsNotKept(t *testing.T) {
	for _, g := range samples(t) {
		g, in := deep(g), terms("aba")
		a := ask(g, in)
		want := a.text()
		scribble(in, 99)
		for i := range g.Prods {
			scribble(g.Prods[i].Right, 99)
		}
		scribble(g.Prods, api.Prod{Left: 99})
		if got := a.text(); got != want {
			t.Errorf("has become %s, was %s", got, want)
		}
	}
}

// P2: the same is answered each time.
func TestSameEachTime(t *testing.T) {
	d := &dice{seed: 9}
	for range 300 {
		g := d.grammar()
		in := d.list(g, 5)
		want := ask(g, in).text()
		for range 5 {
			if got := ask(g, in).text(); got != want {
				t.Fatalf("%v of %+v: %s, was %s", in, g, got, want)
			}
		}
	}
}

// P3: a nil list and an empty one are one thing.
func TestNilAndEmpty(t *testing.T) {
	for _, g := range samples(t) {
		full := g
		full.Levels, full.Sides = append([]int{}, g.Levels...), append([]int{}, g.Sides...)
		full.Prods = append([]api.Prod{}, g.Prods...)
		for i, p := range full.Prods {
			full.Prods[i].Right = append([]int{}, p.Right...)
		}
		if got, want := ask(full, []int{}).text(), ask(g, nil).text(); got != want {
			t.Errorf("%+v: %s, want %s", g, got, want)
		}
	}
	bare, full := api.Grammar{Names: 1}, api.Grammar{Names: 1, Prods: []api.Prod{}, Levels: []int{}, Sides: []int{}}
	if ask(bare, nil).text() != ask(full, []int{}).text() {
		t.Error("a grammar without productions")
	}
}

// P1: no call panics, whatever it is given, and what is answered fits together.
func TestNothingPanics(t *testing.T) {
	d := &dice{seed: 10}
	odd := []int{0, 0, 1, 1, 2, 3, -1, -2, -3, api.MaxSyms, api.MaxSyms + 1, 1 << 40, math.MinInt, math.MaxInt}
	one := func() int { return odd[d.next(len(odd))] }
	list := func(most int) []int {
		var out []int
		for range d.next(most) {
			out = append(out, one())
		}
		return out
	}
	valid := 0
	for range 20000 {
		g := d.grammar()
		for range d.next(3) {
			switch d.next(7) {
			case 0:
				g.Terms = one()
			case 1:
				g.Names = one()
			case 2:
				g.Start = one()
			case 3:
				g.Levels = list(4)
			case 4:
				g.Sides = list(4)
			case 5:
				g.Prods = append(g.Prods, api.Prod{Left: one(), Right: list(4), Level: one()})
			case 6:
				g.Prods = nil
			}
		}
		in := list(6)
		forest.Trees(g, in, min(one(), 5))
		if !grammar.Ok(g) {
			checkNothing(t, "wrong", g, in)
			continue
		}
		valid++
		checkTogether(t, g, in)
	}
	if valid < 5000 {
		t.Errorf("only %d were valid", valid)
	}
	checkNothing(t, "nothing at all", api.Grammar{}, nil)
}

func checkTogether(t *testing.T, g api.Grammar, in []int) {
	t.Helper()
	a := ask(g, in)
	if a.Has != (a.Count != "0") || a.Has != (len(a.Trees) > 0) || a.Has != slices.Contains(a.Begins, g.Terms) {
		t.Fatalf("%v of %+v: %s", in, g, a.text())
	}
	for _, r := range a.Trees {
		if !parse.Sound(g, r, in) || !isPlain(g, r, nil) {
			t.Fatalf("%v of %+v: %s", in, g, parse.Show(r))
		}
	}
}
