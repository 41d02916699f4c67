package repair_test

import (
	"slices"
	"strings"
	"testing"

	"grammarsmith/api"
	"grammarsmith/grammar"
	"grammarsmith/repair"
)

// capitals are the names of the tests' grammars, in their order; S is Start.
const capitals = "SABCDEF"

func symbol(c byte) int {
	if n := strings.IndexByte(capitals, c); n >= 0 {
		return -1 - n
	}
	return int(c - 'a')
}

// of makes a grammar of a text of productions with blanks between: the name that is Left, then the symbols of Right. Names are the capitals, terminals small letters from a on.
func of(t *testing.T, text string) api.Grammar {
	t.Helper()
	g := api.Grammar{Names: 1}
	for _, prod := range strings.Fields(text) {
		p := api.Prod{Left: -1 - symbol(prod[0])}
		for _, c := range []byte(prod[1:]) {
			p.Right = append(p.Right, symbol(c))
			g.Terms = max(g.Terms, symbol(c)+1)
			g.Names = max(g.Names, -symbol(c))
		}
		g.Names = max(g.Names, p.Left+1)
		g.Prods = append(g.Prods, p)
	}
	if !grammar.Ok(g) {
		t.Fatalf("%q is not valid: %+v", text, g)
	}
	return g
}

// terms are the terminals of small letters.
func terms(letters string) []int {
	var out []int
	for _, c := range []byte(letters) {
		out = append(out, int(c-'a'))
	}
	return out
}

// letters tells terminals as terms takes them.
func letters(l []int) string {
	var out []byte
	for _, x := range l {
		out = append(out, byte('a'+x))
	}
	return string(out)
}

// row is so many times the same number.
func row(number, times int) []int {
	return slices.Repeat([]int{number}, times)
}

// ones are costs of 1 for so many terminals.
func ones(terms int) api.Costs {
	return api.Costs{Put: row(1, terms), Leave: row(1, terms)}
}

// checkMend asks for a sentence and its cost.
func checkMend(t *testing.T, name string, g api.Grammar, c api.Costs, in, want []int, cost int) {
	t.Helper()
	l, got, err := repair.Mend(g, c, in)
	if err != nil || got != cost || !slices.Equal(l, want) {
		t.Errorf("%s: %v at %d, %v, want %v at %d", name, l, got, err, want, cost)
		return
	}
	if len(in) <= api.MaxMended && repair.Cost(c, in, l) != cost {
		t.Errorf("%s: Cost says %d, want %d", name, repair.Cost(c, in, l), cost)
	}
}

// checkError asks for an error, and that nothing else is told.
func checkError(t *testing.T, name string, g api.Grammar, c api.Costs, in []int, want error) {
	t.Helper()
	if l, cost, err := repair.Mend(g, c, in); err != want || len(l) != 0 || cost != 0 {
		t.Errorf("%s: %v at %d, %v, want %v", name, l, cost, err, want)
	}
}

// dice gives the same numbers each time.
type dice struct{ seed uint32 }

func (d *dice) next(n int) int {
	d.seed = d.seed*1664525 + 1013904223
	return int(d.seed>>8) % n
}

// grammar is a small one, in which names without trees, empty sentences and names within themselves are not rare.
func (d *dice) grammar() api.Grammar {
	g := api.Grammar{Terms: 1 + d.next(3), Names: 1 + d.next(4)}
	g.Start = d.next(g.Names)
	for range 1 + d.next(9) {
		p := api.Prod{Left: d.next(g.Names)}
		for range d.next(5) {
			if d.next(2) == 0 {
				p.Right = append(p.Right, d.next(g.Terms))
			} else {
				p.Right = append(p.Right, -1-d.next(g.Names))
			}
		}
		g.Prods = append(g.Prods, p)
	}
	return g
}

// list is of at most so many terminals.
func (d *dice) list(terms, length int) []int {
	var out []int
	for range d.next(length + 1) {
		out = append(out, d.next(terms))
	}
	return out
}

// costs are from 1 on, up to most.
func (d *dice) costs(terms, most int) api.Costs {
	var c api.Costs
	for range terms {
		c.Put, c.Leave = append(c.Put, 1+d.next(most)), append(c.Leave, 1+d.next(most))
	}
	return c
}
