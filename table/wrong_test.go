package table_test

import (
	"errors"
	"testing"

	"grammarsmith/api"
	"grammarsmith/grammar"
)

// P60: a grammar that is not valid.
func TestNotValid(t *testing.T) {
	ok := api.Grammar{Terms: 1, Names: 1, Prods: []api.Prod{{Right: []int{0}}}}
	for name, change := range map[string]func(*api.Grammar){
		"nothing":             func(g *api.Grammar) { *g = api.Grammar{} },
		"no names":            func(g *api.Grammar) { g.Names = 0 },
		"Names below 0":       func(g *api.Grammar) { g.Names = -1 },
		"too many names":      func(g *api.Grammar) { g.Names = api.MaxSyms + 1 },
		"Terms below 0":       func(g *api.Grammar) { g.Terms = -1 },
		"too many terminals":  func(g *api.Grammar) { g.Terms = api.MaxSyms + 1 },
		"Start is none":       func(g *api.Grammar) { g.Start = 1 },
		"a Left is none":      func(g *api.Grammar) { g.Prods[0].Left = 1 },
		"a terminal is none":  func(g *api.Grammar) { g.Prods[0].Right = []int{1} },
		"a name is none":      func(g *api.Grammar) { g.Prods[0].Right = []int{-2} },
		"a level is none":     func(g *api.Grammar) { g.Prods[0].Level = 1 },
		"a side is none":      func(g *api.Grammar) { g.Sides = []int{0} },
		"too few Levels":      func(g *api.Grammar) { g.Terms, g.Levels = 2, []int{0} },
		"too many symbols":    func(g *api.Grammar) { g.Prods[0].Right = make([]int, api.MaxRight+1) },
		"too many and unused": func(g *api.Grammar) { g.Prods = make([]api.Prod, api.MaxProds+1) },
		"no productions":      func(g *api.Grammar) { g.Names, g.Prods = 0, nil },
		"and one not used":    func(g *api.Grammar) { g.Names, g.Prods = 2, []api.Prod{{Right: []int{9}}, {Left: 1}} },
	} {
		g := ok
		g.Prods = []api.Prod{{Right: []int{0}}}
		change(&g)
		if grammar.Ok(g) {
			t.Errorf("%s: the test's grammar is valid", name)
		}
		for _, m := range makers {
			x, err := m.of(g)
			if err != api.ErrSyntax {
				t.Errorf("%s of %s: %v", m.name, name, err)
			}
			checkNone(t, name, x)
		}
	}
	for _, m := range makers {
		made(t, m, ok)
	}
}

// P60: productions that stand in no tree of Start.
func TestNotUsed(t *testing.T) {
	for text, at := range map[string]int{
		"S":                            0, // no productions
		"S : S":                        0, // no tree of Start
		"S : a S":                      0,
		"S : a T; T : T":               0,
		"S : a T":                      0, // T has no productions
		"T; S : a":                     0, // the first name is Start: it has none
		"S : T | a; T : T":             0, // the first one
		"S : S T | a; T : a T":         0,
		"S : a | T | b; T : b T":       1, // one in the middle
		"S : a; T : a; S : b":          1,
		"S : a | b; T : S | a":         2,
		"S : a | A; A : b | A T; T: T": 3,
		"S : a | b | T; T : a T":       2,
		"S : a | b | T":                2, // the last one
		"S : a | b; T : a":             2,
		"S : a S b | ; T : ":           2,
		"S : a | A; A : b; T : U; U :": 3,
	} {
		g := of(t, text)
		for _, m := range makers {
			x, err := m.of(g)
			checkFault(t, m.name+" of "+text, x, err, api.ErrRule, at)
		}
	}
	for _, text := range []string{"S : ", "S : a | S", "S : A | b; A : S c", "S : a; T", "S : A; A : B; B : C; C :"} {
		for _, m := range makers {
			made(t, m, of(t, text))
		}
	}
}

// P60: it is the first production that is not used, also where the others are far more.
func TestFirstNotUsed(t *testing.T) {
	d := &dice{seed: 60}
	seen := map[bool]int{}
	for range 5000 {
		g := d.wild()
		used, at := grammar.Used(g), -1
		if len(g.Prods) == 0 {
			at = 0
		}
		for i := len(used) - 1; i >= 0; i-- {
			if !used[i] {
				at = i
			}
		}
		seen[at < 0]++
		for _, m := range makers {
			x, err := m.of(g)
			if at < 0 && err != nil {
				t.Fatalf("%s of %+v: %v", m.name, g, err)
			}
			if at >= 0 {
				checkFault(t, m.name, x, err, api.ErrRule, at)
			}
		}
	}
	if min(seen[true], seen[false]) < 500 {
		t.Errorf("seen: %v", seen)
	}
}

// chain is a grammar of which each table has so many states: one for each symbol of its productions, and two more.
func chain(states int) api.Grammar {
	g := api.Grammar{Terms: 2}
	for left := states - 2; left > 0; left -= api.MaxRight {
		p := api.Prod{Left: g.Names, Right: make([]int, min(left, api.MaxRight))}
		g.Names++
		if left > api.MaxRight {
			p.Right[api.MaxRight-1] = -1 - g.Names
		}
		g.Prods = append(g.Prods, p)
	}
	return g
}

// P60: as many states as may be, and one more.
func TestBound(t *testing.T) {
	for _, m := range makers {
		for _, states := range []int{3, 22, 23, 1000, api.MaxTable - 1, api.MaxTable} {
			if x := made(t, m, chain(states)); len(x.Acts) != states {
				t.Errorf("%s: %d states, want %d", m.name, len(x.Acts), states)
			}
		}
		for _, states := range []int{api.MaxTable + 1, api.MaxTable + 2, api.MaxTable + 100} {
			x, err := m.of(chain(states))
			checkFault(t, m.name, x, err, api.ErrBound, 0)
		}
	}
}

// branches is a grammar whose LR1 has for each terminal that may stand at the front, and behind, the states of an A of its own, while LALR has them once.
func branches(count, length int) api.Grammar {
	g := api.Grammar{Terms: 2 * count, Names: 2, Prods: []api.Prod{{Left: 1, Right: make([]int, length)}}}
	for i := range count {
		g.Prods = append(g.Prods, api.Prod{Right: []int{i, -2, count + i}})
	}
	return g
}

// P60: what is bounded is the states of the table that is asked for.
func TestBoundOfEach(t *testing.T) {
	// Two states, three for each branch, and those of A, which LR1 has for each branch: 2 + 3 * 111 + 15 * 111 is MaxTable.
	x, y := made(t, makers[0], branches(111, 15)), made(t, makers[1], branches(111, 15))
	if len(x.Acts) != api.MaxTable || len(y.Acts) != 2+3*111+15 {
		t.Errorf("%d and %d states", len(x.Acts), len(y.Acts))
	}
	z, err := makers[0].of(branches(112, 15))
	checkFault(t, "LR1", z, err, api.ErrBound, 0)
	if y = made(t, makers[1], branches(112, 15)); len(y.Acts) != 2+3*112+15 {
		t.Errorf("%d states", len(y.Acts))
	}
	g := branches(150, 20)
	z, err = makers[0].of(g)
	checkFault(t, "LR1", z, err, api.ErrBound, 0)
	made(t, makers[1], g)
	g.Prods = append(g.Prods, api.Prod{Left: 1, Right: []int{-1, -3}})
	g.Names = 3
	for _, m := range makers { // what is not used is told ahead of what is too much
		z, err = m.of(g)
		checkFault(t, m.name, z, err, api.ErrRule, 151)
	}
	if errors.Is(err, api.ErrBound) {
		t.Error("two errors")
	}
}
