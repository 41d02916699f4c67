package repair_test

import (
	"slices"
	"testing"

	"grammarsmith/api"
	"grammarsmith/forest"
	"grammarsmith/repair"
)

// dense is a grammar of long productions of a few names, each with sentences of all lengths of the terminal 0.
func dense(prods int, empty bool) api.Grammar {
	const names = 20
	d, g := &dice{seed: 5}, api.Grammar{Terms: 3, Names: names}
	for n := range names {
		g.Prods = append(g.Prods, api.Prod{Left: n, Right: []int{0}}, api.Prod{Left: n, Right: []int{-1 - (n*7)%names, -1 - (n*3)%names}})
		if empty {
			g.Prods = append(g.Prods, api.Prod{Left: n})
		}
	}
	for len(g.Prods) < prods {
		p := api.Prod{Left: d.next(names)}
		for range api.MaxRight {
			p.Right = append(p.Right, -1-d.next(names))
		}
		g.Prods = append(g.Prods, p)
	}
	return g
}

// hollow is a grammar of as many names as may be, most of them without leaves, which stand within one another everywhere.
func hollow() api.Grammar {
	d, g := &dice{seed: 6}, api.Grammar{Terms: 3, Names: api.MaxSyms}
	for n := range api.MaxSyms {
		g.Prods = append(g.Prods, api.Prod{Left: n})
	}
	for n := range api.MaxProds - api.MaxSyms {
		p := api.Prod{Left: n}
		for range api.MaxRight {
			p.Right = append(p.Right, -1-d.next(api.MaxSyms))
		}
		g.Prods = append(g.Prods, p)
	}
	g.Prods[api.MaxSyms-1].Right = []int{0}
	return g
}

// P1: each call ends, and soon, also for large grammars in which very many trees cost as much.
func TestLargeGrammars(t *testing.T) {
	most := row(0, api.MaxWords)
	pierced := slices.Clone(most)
	pierced[20], pierced[21], pierced[50] = 1, 2, 1
	for name, g := range map[string]api.Grammar{"dense": dense(250, false), "dense and empty": dense(120, true), "hollow": hollow()} {
		checkMend(t, name, g, ones(3), most, most, 0)
		checkMend(t, name, g, ones(3), pierced, row(0, api.MaxWords-3), 3)
		if forest.Has(g, nil) {
			checkMend(t, name, g, ones(3), row(1, api.MaxWords), nil, api.MaxWords)
		} else {
			checkMend(t, name, g, ones(3), row(1, api.MaxWords), row(0, 1), api.MaxWords+1)
		}
	}
}

// P91: of large grammars of any kind: a sentence, at just the cost that Cost tells, and no dearer than others that are known.
func TestMendFitsTogether(t *testing.T) {
	d := &dice{seed: 21}
	for range 12 {
		g := api.Grammar{Terms: 1 + d.next(5), Names: 5 + d.next(20)}
		for n := range g.Names {
			g.Prods = append(g.Prods, api.Prod{Left: n, Right: d.list(g.Terms, 3)})
		}
		for range 60 {
			p := api.Prod{Left: d.next(g.Names)}
			for range d.next(7) {
				p.Right = append(p.Right, d.next(g.Terms+g.Names)-g.Names)
			}
			g.Prods = append(g.Prods, p)
		}
		c := d.costs(g.Terms, 1+d.next(20))
		var known []int
		for range 8 {
			in := d.list(g.Terms, api.MaxWords)
			l, cost, err := repair.Mend(g, c, in)
			if err != nil || repair.Cost(c, in, l) != cost || len(l) <= api.MaxWords && !forest.Has(g, l) {
				t.Fatalf("%+v, %+v, %v: %v at %d, %v", g, c, in, l, cost, err)
			}
			if known != nil && repair.Cost(c, in, known) < cost {
				t.Fatalf("%+v, %+v, %v: %v at %d, but %v is nearer", g, c, in, l, cost, known)
			}
			known = l
			if len(l) <= api.MaxWords {
				checkMend(t, "what was mended", g, c, l, l, 0)
			}
		}
	}
}

// P91: brackets, as many as may be: those without a partner are left out, or get one, as is cheaper.
func TestMendBrackets(t *testing.T) {
	g := of(t, "SaSbS S")
	d := &dice{seed: 22}
	for _, c := range []api.Costs{{Put: []int{9, 9}, Leave: []int{1, 1}}, {Put: []int{1, 1}, Leave: []int{9, 9}}, {Put: []int{9, 1}, Leave: []int{9, 2}}} {
		for range 20 {
			in := d.list(2, api.MaxWords)
			open, lone := 0, 0 // of b that has no partner
			for _, x := range in {
				switch {
				case x == 0:
					open++
				case open > 0:
					open--
				default:
					lone++
				}
			}
			want := open*min(c.Leave[0], c.Put[1]) + lone*min(c.Leave[1], c.Put[0])
			l, cost, err := repair.Mend(g, c, in)
			if err != nil || cost != want || repair.Cost(c, in, l) != want {
				t.Errorf("%+v, %v: %v at %d, %v, want %d", c, in, l, cost, err, want)
			}
		}
	}
}
