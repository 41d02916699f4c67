package grammar_test

import (
	"reflect"
	"slices"
	"strings"
	"testing"

	"grammarsmith/api"
	"grammarsmith/grammar"
)

// of makes a grammar of a text: names are capitals, in the order in which they are met, terminals small letters from a on; the first name is Start. There are as many terminals as the last letter says.
func of(t *testing.T, text string) api.Grammar {
	t.Helper()
	g := api.Grammar{}
	var names []string
	symbol := func(s string) int {
		if len(s) != 1 {
			t.Fatalf("%q in %q", s, text)
		}
		if s >= "a" && s <= "z" {
			g.Terms = max(g.Terms, int(s[0]-'a')+1)
			return int(s[0] - 'a')
		}
		if !slices.Contains(names, s) {
			names = append(names, s)
		}
		return -1 - slices.Index(names, s)
	}
	for _, rule := range strings.Split(text, ";") {
		left, cases, is := strings.Cut(rule, ":")
		n := -1 - symbol(strings.TrimSpace(left))
		if !is {
			continue // a name without productions
		}
		for _, c := range strings.Split(cases, "|") {
			p := api.Prod{Left: n}
			for _, s := range strings.Fields(c) {
				p.Right = append(p.Right, symbol(s))
			}
			g.Prods = append(g.Prods, p)
		}
	}
	g.Names = len(names)
	if !grammar.Ok(g) {
		t.Fatalf("%q is not valid: %+v", text, g)
	}
	return g
}

// terms are the terminals of letters; a blank is the end of so many.
func terms(letters string, end int) []int {
	var out []int
	for _, c := range []byte(letters) {
		if c == ' ' {
			out = append(out, end)
		} else {
			out = append(out, int(c-'a'))
		}
	}
	return out
}

// bools are of a text with + for true.
func bools(s string) []bool {
	var out []bool
	for _, c := range s {
		out = append(out, c == '+')
	}
	return out
}

// sets are of letters, for each name, with a comma between.
func sets(s string, end int) [][]int {
	var out [][]int
	for _, letters := range strings.Split(s, ",") {
		out = append(out, terms(letters, end))
	}
	return out
}

// sameSets takes a nil list and an empty one as the same.
func sameSets(a, b [][]int) bool {
	return slices.EqualFunc(a, b, func(x, y []int) bool { return slices.Equal(x, y) })
}

// row is so many times the same symbol.
func row(symbol, times int) []int {
	return slices.Repeat([]int{symbol}, times)
}

// answers are what all calls of the chapter answer.
type answers struct {
	Ok                         bool
	Lives, Used, Empty, Loops  []bool
	First, Follow, ShortestAll [][]int
	Short                      []int
	Found                      []bool
}

func ask(g api.Grammar) answers {
	a := answers{
		Ok: grammar.Ok(g), Lives: grammar.Lives(g), Used: grammar.Used(g), Empty: grammar.Empty(g), Loops: grammar.Loops(g),
		First: grammar.First(g), Follow: grammar.Follow(g), Short: grammar.Short(g),
	}
	for n := -1; n <= min(g.Names, api.MaxSyms+1); n++ {
		l, found := grammar.Shortest(g, n)
		a.ShortestAll, a.Found = append(a.ShortestAll, l), append(a.Found, found)
	}
	return a
}

// checkNothing asks that a grammar is not valid, and that nothing is answered of it.
func checkNothing(t *testing.T, name string, g api.Grammar) {
	t.Helper()
	if grammar.Ok(g) {
		t.Errorf("%s: is valid", name)
	}
	if got := grammar.Lives(g); len(got) != 0 {
		t.Errorf("%s: Lives %v", name, got)
	}
	if got := grammar.Used(g); len(got) != 0 {
		t.Errorf("%s: Used %v", name, got)
	}
	if got := grammar.Empty(g); len(got) != 0 {
		t.Errorf("%s: Empty %v", name, got)
	}
	if got := grammar.Loops(g); len(got) != 0 {
		t.Errorf("%s: Loops %v", name, got)
	}
	if got := grammar.First(g); len(got) != 0 {
		t.Errorf("%s: First %v", name, got)
	}
	if got := grammar.Follow(g); len(got) != 0 {
		t.Errorf("%s: Follow %v", name, got)
	}
	if got := grammar.Short(g); len(got) != 0 {
		t.Errorf("%s: Short %v", name, got)
	}
	for _, n := range []int{0, g.Start, -1, 1} {
		if got, found := grammar.Shortest(g, n); len(got) != 0 || found {
			t.Errorf("%s: Shortest of %d: %v, %v", name, n, got, found)
		}
	}
}

// checkValid asks that a grammar is valid, and that something is answered of each name and production.
func checkValid(t *testing.T, name string, g api.Grammar) {
	t.Helper()
	if !grammar.Ok(g) {
		t.Errorf("%s: is not valid", name)
		return
	}
	a := ask(g)
	for what, list := range map[string]any{"Lives": a.Lives, "Empty": a.Empty, "Loops": a.Loops, "First": a.First, "Follow": a.Follow, "Short": a.Short} {
		if got := reflect.ValueOf(list).Len(); got != g.Names {
			t.Errorf("%s: %s tells of %d names, want %d", name, what, got, g.Names)
		}
	}
	if len(a.Used) != len(g.Prods) {
		t.Errorf("%s: Used tells of %d productions, want %d", name, len(a.Used), len(g.Prods))
	}
}

// dice gives the same numbers each time.
type dice struct{ seed uint32 }

func (d *dice) next(n int) int {
	d.seed = d.seed*1664525 + 1013904223
	return int(d.seed>>8) % n
}

// grammar is a small one, in which names without trees, empty sentences and loops are not rare.
func (d *dice) grammar() api.Grammar {
	return d.grammarOf(9, 0)
}

// grammarOf is one of fewer than so many productions, with at least so many symbols each.
func (d *dice) grammarOf(prods, least int) api.Grammar {
	g := api.Grammar{Terms: d.next(4), Names: 1 + d.next(4)}
	g.Start = d.next(g.Names)
	for range d.next(prods) {
		p := api.Prod{Left: d.next(g.Names)}
		for range least + d.next(4-least) {
			if g.Terms > 0 && d.next(2) == 0 {
				p.Right = append(p.Right, d.next(g.Terms))
			} else {
				p.Right = append(p.Right, -1-d.next(g.Names))
			}
		}
		g.Prods = append(g.Prods, p)
	}
	return g
}
