package forest_test

import (
	"slices"
	"testing"

	"grammarsmith/api"
	"grammarsmith/forest"
	"grammarsmith/parse"
)

// P1: names that stand within one another, all of them with each number of leaves: trees as deep as may be.
func TestDeepTrees(t *testing.T) {
	g := ring(api.MaxSyms)
	g.Prods = append(g.Prods, api.Prod{Left: api.MaxSyms - 1, Right: []int{0, -1}})
	in := row(0, api.MaxWords)
	for range 2 {
		a := ask(g, in)
		if !a.Has || a.Count != "many" || len(a.Trees) != 1 || !slices.Equal(a.Begins, []int{0, 2}) {
			t.Fatalf("%v %v %s, %d trees", a.Has, a.Begins, a.Count, len(a.Trees))
		}
		if !parse.Sound(g, a.Trees[0], in) || countNodes(a.Trees[0]) != api.MaxSyms*api.MaxWords+api.MaxWords {
			t.Errorf("a tree of %d nodes", countNodes(a.Trees[0]))
		}
		slices.Reverse(g.Prods)
	}
}

// woven is names that lead to one another in more ways than can be gone through: each leads to three others, by productions with so many symbols. Start leads to them, and they lead back to Start; it alone has a way out.
func woven(symbols int, exit []int) api.Grammar {
	const names = 100
	g := api.Grammar{Terms: 1, Names: names, Prods: []api.Prod{{Right: []int{-2}}, {Right: exit}}}
	for a := 1; a < names; a++ {
		for _, b := range []int{a + 1, a + 2, 2*a + 1} {
			g.Prods = append(g.Prods, api.Prod{Left: a, Right: row(-1-b%names, symbols)})
		}
	}
	return g
}

// P1: where names lead to one another in very many ways, but none leads out, the ways are not gone through.
func TestNoWayOut(t *testing.T) {
	for _, c := range []struct {
		name    string
		symbols int
		exit    []int
	}{{"a leaf", 1, []int{0}}, {"nothing", 1, nil}, {"pairs of nothing", 2, nil}} {
		g := woven(c.symbols, c.exit)
		if got := shown(forest.Trees(g, c.exit, 1000)); forest.Count(g, c.exit) != "many" || len(got) != 1 || got[0][:2] != "(1" {
			t.Errorf("out of Start alone, by %s: %v", c.name, got)
		}
		if c.symbols > 1 {
			continue // then trees are too large
		}
		g.Prods[1].Left = 50
		l := forest.Trees(g, c.exit, 1000)
		for i, r := range l {
			if !parse.Sound(g, r, c.exit) || !isPlain(g, r, nil) || i > 0 && compareTrees(l[i-1], r) >= 0 {
				t.Errorf("out of another one, by %s: %s", c.name, parse.Show(r))
			}
		}
		if len(l) != 1000 {
			t.Errorf("out of another one, by %s: %d", c.name, len(l))
		}
	}
}

// dense is a grammar of long productions of a few names, each with sentences of all lengths.
func dense(prods int) api.Grammar {
	const names = 20
	d, g := &dice{seed: 5}, api.Grammar{Terms: 2, Names: names}
	for n := range names {
		g.Prods = append(g.Prods, api.Prod{Left: n, Right: []int{0}}, api.Prod{Left: n, Right: []int{-1 - (n*7)%names, -1 - (n*3)%names}})
	}
	for len(g.Prods) < prods {
		p := api.Prod{Left: d.next(names)}
		for range api.MaxRight {
			p.Right = append(p.Right, -1-d.next(names))
		}
		g.Prods = append(g.Prods, p)
	}
	return g
}

// hollow is a grammar of as many names as may be, most of them without leaves, which stand within one another everywhere.
func hollow() api.Grammar {
	d, g := &dice{seed: 6}, api.Grammar{Terms: 2, Names: api.MaxSyms}
	for n := range api.MaxSyms {
		g.Prods = append(g.Prods, api.Prod{Left: n})
	}
	for n := range api.MaxProds - api.MaxSyms {
		p := api.Prod{Left: n}
		for range api.MaxRight {
			p.Right = append(p.Right, -1-d.next(api.MaxSyms))
		}
		g.Prods = append(g.Prods, p)
	}
	g.Prods[api.MaxSyms-1].Right = []int{0}
	return g
}

// P1: each call ends, and soon, also for grammars of as much as may be.
func TestLargeGrammars(t *testing.T) {
	for _, c := range []struct {
		name  string
		g     api.Grammar
		count string
	}{{"dense", dense(150), ""}, {"hollow", hollow(), "many"}} {
		in := row(0, api.MaxWords)
		a := ask(c.g, in)
		if !a.Has || c.count != "" && a.Count != c.count || len(a.Trees) != 20 || !slices.Equal(a.Begins, []int{0, 2}) {
			t.Fatalf("%s: %v %v %s, %d trees", c.name, a.Has, a.Begins, a.Count, len(a.Trees))
		}
		for i, r := range a.Trees {
			if !parse.Sound(c.g, r, in) || !isPlain(c.g, r, nil) || i > 0 && compareTrees(a.Trees[i-1], r) >= 0 {
				t.Errorf("%s: tree %d", c.name, i)
			}
		}
		in[30] = 1
		checkNothing(t, c.name, c.g, in)
	}
}

// P1: of a tree of more nodes than there is memory for nothing is promised, but the call ends.
func TestTreesPastTelling(t *testing.T) {
	for _, c := range []struct{ names, wide, last int }{{api.MaxSyms, 20, 1}, {api.MaxSyms, 2, 1}, {64, 2, 1}, {65, 2, 1}, {40, 2, 3}} {
		if got := forest.Trees(fanned(c.names, c.wide, c.last), nil, 10); len(got) != 0 {
			t.Errorf("%+v: %d trees", c, len(got))
		}
	}
	if got := forest.Trees(fanned(4, 20, 2), nil, 10); len(got) != 10 || countNodes(got[9]) != 1+20+400+8000 {
		t.Errorf("%d trees", len(got))
	}
}
