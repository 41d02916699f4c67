package parse_test

import (
	"errors"
	"strconv"
	"strings"
	"testing"

	"grammarsmith/api"
	"grammarsmith/grammar"
	"grammarsmith/parse"
	"grammarsmith/table"
)

// capitals are the names of the tests' grammars, in their order; S is Start.
const capitals = "SABCDEF"

func symbol(c byte) int {
	if n := strings.IndexByte(capitals, c); n >= 0 {
		return -1 - n
	}
	return int(c - 'a')
}

// of makes a grammar of productions, a text each: the name that is Left, then the symbols of Right. Names are the capitals, terminals small letters from a on.
func of(t *testing.T, prods ...string) api.Grammar {
	t.Helper()
	g := api.Grammar{Names: 1}
	for _, text := range prods {
		p := api.Prod{Left: -1 - symbol(text[0])}
		for _, c := range []byte(text[1:]) {
			p.Right = append(p.Right, symbol(c))
			g.Terms = max(g.Terms, symbol(c)+1)
			g.Names = max(g.Names, -symbol(c))
		}
		g.Names = max(g.Names, p.Left+1)
		g.Prods = append(g.Prods, p)
	}
	if !grammar.Ok(g) {
		t.Fatalf("%q is not valid: %+v", prods, g)
	}
	return g
}

// terms are the terminals of small letters; a ! is -1, which is none of any grammar.
func terms(letters string) []int {
	var out []int
	for _, c := range []byte(letters) {
		if c == '!' {
			out = append(out, -1)
		} else {
			out = append(out, int(c-'a'))
		}
	}
	return out
}

// maker is LR1 or LALR.
type maker struct {
	name string
	of   func(api.Grammar) (api.Table, error)
}

var makers = []maker{{"LR1", table.LR1}, {"LALR", table.LALR}}

// made is the table of a grammar that must have one.
func made(t *testing.T, m maker, g api.Grammar) api.Table {
	t.Helper()
	x, err := m.of(g)
	if err != nil {
		t.Fatalf("%s of %+v: %v", m.name, g, err)
	}
	return x
}

// written is a table of texts, a row each: for each terminal and the end > and a state, / and a production, ! or a dot; behind a stroke the Gotos: a state or a dot.
func written(t *testing.T, rows ...string) api.Table {
	t.Helper()
	var x api.Table
	number := func(s string) int {
		n, err := strconv.Atoi(s)
		if err != nil {
			t.Fatalf("%q in %q", s, rows)
		}
		return n
	}
	for _, row := range rows {
		left, right, _ := strings.Cut(row, "|")
		var acts []api.Act
		for _, s := range strings.Fields(left) {
			switch s[0] {
			case '.':
				acts = append(acts, api.Act{})
			case '!':
				acts = append(acts, api.Act{Kind: api.ActAccept})
			case '>':
				acts = append(acts, api.Act{Kind: api.ActShift, To: number(s[1:])})
			case '/':
				acts = append(acts, api.Act{Kind: api.ActReduce, To: number(s[1:])})
			default:
				t.Fatalf("%q in %q", s, rows)
			}
		}
		var gotos []int
		for _, s := range strings.Fields(right) {
			if s == "." {
				s = "-1"
			}
			gotos = append(gotos, number(s))
		}
		x.Acts, x.Gotos = append(x.Acts, acts), append(x.Gotos, gotos)
	}
	return x
}

// fitting is a written table that must fit.
func fitting(t *testing.T, g api.Grammar, rows ...string) api.Table {
	t.Helper()
	x := written(t, rows...)
	if !parse.Fits(g, x) {
		t.Fatalf("%q does not fit %+v", rows, g)
	}
	return x
}

// checkTree asks for a tree, and nothing else.
func checkTree(t *testing.T, name string, g api.Grammar, x api.Table, in []int, want string) {
	t.Helper()
	r, err := parse.Parse(g, x, in)
	if got := parse.Show(r); err != nil || r == nil || got != want {
		t.Errorf("%s: %v: %s (%v), want %s", name, in, got, err, want)
	}
}

// checkFault asks for an error with a place, and no tree.
func checkFault(t *testing.T, name string, g api.Grammar, x api.Table, in []int, want error, at int) {
	t.Helper()
	r, err := parse.Parse(g, x, in)
	fault, is := err.(*api.Fault)
	if !is || fault.Err != want || fault.At != at || !errors.Is(err, want) {
		t.Errorf("%s: %v (%+v), want %v at %d", name, err, fault, want, at)
	}
	if r != nil {
		t.Errorf("%s: there is a tree beside the error: %s", name, parse.Show(r))
	}
}

// told is what Parse answers, as a text.
func told(r *api.Tree, err error) string {
	if err == nil {
		return parse.Show(r)
	}
	text := err.Error()
	if fault, is := err.(*api.Fault); is {
		text += " at " + strconv.Itoa(fault.At)
	}
	if r != nil {
		text += " beside a tree"
	}
	return text
}

// tree is what Show has told: numbers are leaves, and () is nil.
func tree(t *testing.T, text string) *api.Tree {
	t.Helper()
	words := strings.Fields(strings.NewReplacer("(", " ( ", ")", " ) ").Replace(text))
	number := func() int {
		n, err := strconv.Atoi(words[0])
		if err != nil {
			t.Fatalf("%q in %q", words[0], text)
		}
		words = words[1:]
		return n
	}
	var read func() *api.Tree
	read = func() *api.Tree {
		if words[0] != "(" {
			return &api.Tree{Prod: -1, Token: number()}
		}
		words = words[1:]
		var r *api.Tree
		if words[0] != ")" {
			r = &api.Tree{Prod: number()}
			for words[0] != ")" {
				r.Kids = append(r.Kids, read())
			}
		}
		words = words[1:]
		return r
	}
	out := read()
	if len(words) != 0 || parse.Show(out) != text {
		t.Fatalf("%q is read as %q, left over %q", text, parse.Show(out), words)
	}
	return out
}

// all gives the trees in a tree, itself first.
func all(r *api.Tree) []*api.Tree {
	if r == nil {
		return nil
	}
	out := []*api.Tree{r}
	for _, k := range r.Kids {
		out = append(out, all(k)...)
	}
	return out
}

// copied is a tree of its own.
func copied(r *api.Tree) *api.Tree {
	if r == nil {
		return nil
	}
	out := &api.Tree{Prod: r.Prod, Token: r.Token}
	for _, k := range r.Kids {
		out.Kids = append(out.Kids, copied(k))
	}
	return out
}

// texts gives all lists of at most so many terminals.
func texts(terms, length int) [][]int {
	out := [][]int{{}}
	for i := 0; i < len(out); i++ {
		for term := range terms {
			if len(out[i]) < length {
				out = append(out, append(append([]int{}, out[i]...), term))
			}
		}
	}
	return out
}

// dice gives the same numbers each time.
type dice struct{ seed uint32 }

func (d *dice) next(n int) int {
	d.seed = d.seed*1664525 + 1013904223
	return int(d.seed>>8) % n
}

// grammar is a small one.
func (d *dice) grammar() api.Grammar {
	g := api.Grammar{Terms: d.next(4), Names: 1 + d.next(3)}
	g.Start = d.next(g.Names)
	for range 1 + d.next(6) {
		p := api.Prod{Left: d.next(g.Names)}
		for range d.next(4) {
			if g.Terms > 0 && d.next(5) < 3 {
				p.Right = append(p.Right, d.next(g.Terms))
			} else {
				p.Right = append(p.Right, -1-d.next(g.Names))
			}
		}
		g.Prods = append(g.Prods, p)
	}
	return g
}

// read is a small grammar with a table of it, LR1 or LALR, which may have conflicts.
func (d *dice) read() (api.Grammar, api.Table) {
	for {
		g := d.grammar()
		if x, err := makers[d.next(2)].of(g); err == nil {
			return g, x
		}
	}
}

// loose is a table that fits, and may be of no use.
func (d *dice) loose(g api.Grammar) api.Table {
	var x api.Table
	states := 1 + d.next(5)
	for range states {
		acts, gotos := make([]api.Act, g.Terms+1), make([]int, g.Names)
		for term := range acts {
			acts[term] = d.act(g, states, term)
		}
		for n := range gotos {
			gotos[n] = d.next(states)
			if d.next(8) == 0 {
				gotos[n] = -1
			}
		}
		x.Acts, x.Gotos = append(x.Acts, acts), append(x.Gotos, gotos)
	}
	return x
}

// bent is a small grammar with a table of it in which few things are not as they were.
func (d *dice) bent() (api.Grammar, api.Table) {
	g, x := d.read()
	for range 1 + d.next(3) {
		s, term := d.next(len(x.Acts)), d.next(g.Terms+1)
		if d.next(3) > 0 {
			x.Acts[s][term] = d.act(g, len(x.Acts), term)
		} else {
			x.Gotos[s][d.next(g.Names)] = d.next(len(x.Acts)+1) - 1
		}
	}
	return g, x
}

func (d *dice) act(g api.Grammar, states, term int) api.Act {
	switch roll := d.next(10); {
	case roll < 1:
		return api.Act{}
	case roll < 4 && len(g.Prods) > 0:
		return api.Act{Kind: api.ActReduce, To: d.next(len(g.Prods))}
	case term == g.Terms:
		return api.Act{Kind: api.ActAccept}
	}
	return api.Act{Kind: api.ActShift, To: d.next(states)}
}

// list is of at most so many terminals, now and then with one that is none.
func (d *dice) list(g api.Grammar, length int) []int {
	var out []int
	for range d.next(length + 1) {
		switch {
		case d.next(30) == 0:
			out = append(out, -1-d.next(3))
		case g.Terms == 0 || d.next(30) == 0:
			out = append(out, g.Terms+d.next(3))
		default:
			out = append(out, d.next(g.Terms))
		}
	}
	return out
}
