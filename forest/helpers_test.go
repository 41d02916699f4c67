package forest_test

import (
	"slices"
	"strconv"
	"strings"
	"testing"

	"grammarsmith/api"
	"grammarsmith/forest"
	"grammarsmith/grammar"
	"grammarsmith/parse"
)

// capitals are the names of the tests' grammars, in their order; S is Start.
const capitals = "SABCDEF"

func symbol(c byte) int {
	if n := strings.IndexByte(capitals, c); n >= 0 {
		return -1 - n
	}
	return int(c - 'a')
}

// of makes a grammar of a text of productions with blanks between: the name that is Left, then the symbols of Right. Names are the capitals, terminals small letters from a on.
func of(t *testing.T, text string) api.Grammar {
	t.Helper()
	g := api.Grammar{Names: 1}
	for _, prod := range strings.Fields(text) {
		p := api.Prod{Left: -1 - symbol(prod[0])}
		for _, c := range []byte(prod[1:]) {
			p.Right = append(p.Right, symbol(c))
			g.Terms = max(g.Terms, symbol(c)+1)
			g.Names = max(g.Names, -symbol(c))
		}
		g.Names = max(g.Names, p.Left+1)
		g.Prods = append(g.Prods, p)
	}
	if !grammar.Ok(g) {
		t.Fatalf("%q is not valid: %+v", text, g)
	}
	return g
}

// terms are the terminals of small letters; a ! is -1, which is none of any grammar.
func terms(letters string) []int {
	var out []int
	for _, c := range []byte(letters) {
		if c == '!' {
			out = append(out, -1)
		} else {
			out = append(out, int(c-'a'))
		}
	}
	return out
}

// letters tells terminals as terms takes them; the end is a dot.
func letters(g api.Grammar, l []int) string {
	var out []byte
	for _, x := range l {
		if x == g.Terms {
			out = append(out, '.')
		} else {
			out = append(out, byte('a'+x))
		}
	}
	return string(out)
}

// shown are trees as Show tells them.
func shown(l []*api.Tree) []string {
	var out []string
	for _, r := range l {
		out = append(out, parse.Show(r))
	}
	return out
}

func numbers(l []int) string {
	var out []string
	for _, x := range l {
		out = append(out, strconv.Itoa(x))
	}
	return strings.Join(out, " ")
}

// answers are what all calls of the chapter answer.
type answers struct {
	Has    bool
	Begins []int
	Count  string
	Trees  []*api.Tree
}

func ask(g api.Grammar, in []int) answers {
	return answers{forest.Has(g, in), forest.Begins(g, in), forest.Count(g, in), forest.Trees(g, in, 20)}
}

// text tells answers in one line.
func (a answers) text() string {
	return strings.Join([]string{strconv.FormatBool(a.Has), numbers(a.Begins), a.Count, strings.Join(shown(a.Trees), " ")}, "; ")
}

// checkNothing asks that nothing is answered.
func checkNothing(t *testing.T, name string, g api.Grammar, in []int) {
	t.Helper()
	if a := ask(g, in); a.Has || len(a.Begins) != 0 || a.Count != "0" || len(a.Trees) != 0 {
		t.Errorf("%s: %s", name, a.text())
	}
}

// checkNone asks that terminals have no tree, and with what a sentence goes on behind them.
func checkNone(t *testing.T, name string, g api.Grammar, in []int, next string) {
	t.Helper()
	a := ask(g, in)
	if a.Has || letters(g, a.Begins) != next || a.Count != "0" || len(a.Trees) != 0 {
		t.Errorf("%s: %s, want to go on with %q", name, a.text(), next)
	}
}

// row is so many times the same symbol.
func row(symbol, times int) []int {
	return slices.Repeat([]int{symbol}, times)
}

// dice gives the same numbers each time.
type dice struct{ seed uint32 }

func (d *dice) next(n int) int {
	d.seed = d.seed*1664525 + 1013904223
	return int(d.seed>>8) % n
}

// grammar is a small one, in which names without trees, empty sentences and names within themselves are not rare.
func (d *dice) grammar() api.Grammar {
	g := api.Grammar{Terms: d.next(3), Names: 1 + d.next(4)}
	g.Start = d.next(g.Names)
	for range 1 + d.next(8) {
		p := api.Prod{Left: d.next(g.Names)}
		for range d.next(4) {
			if g.Terms > 0 && d.next(5) < 2 {
				p.Right = append(p.Right, d.next(g.Terms))
			} else {
				p.Right = append(p.Right, -1-d.next(g.Names))
			}
		}
		g.Prods = append(g.Prods, p)
	}
	return g
}

// list is of at most so many terminals, now and then with one that is none.
func (d *dice) list(g api.Grammar, length int) []int {
	var out []int
	for range d.next(length + 1) {
		switch {
		case d.next(40) == 0:
			out = append(out, -1-d.next(3))
		case g.Terms == 0 || d.next(40) == 0:
			out = append(out, g.Terms+d.next(3))
		default:
			out = append(out, d.next(g.Terms))
		}
	}
	return out
}
