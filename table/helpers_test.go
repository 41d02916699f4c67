package table_test

import (
	"errors"
	"reflect"
	"slices"
	"strconv"
	"strings"
	"testing"

	"grammarsmith/api"
	"grammarsmith/grammar"
	"grammarsmith/table"
)

// maker is LR1 or LALR.
type maker struct {
	name string
	of   func(api.Grammar) (api.Table, error)
}

var makers = []maker{{"LR1", table.LR1}, {"LALR", table.LALR}}

// of makes a grammar of a text: names are capitals, in the order in which they are met, terminals small letters from a on; the first name is Start. There are as many terminals as the last letter says.
func of(t *testing.T, text string) api.Grammar {
	t.Helper()
	g := api.Grammar{}
	var names []string
	symbol := func(s string) int {
		if len(s) != 1 {
			t.Fatalf("%q in %q", s, text)
		}
		if s >= "a" && s <= "z" {
			g.Terms = max(g.Terms, int(s[0]-'a')+1)
			return int(s[0] - 'a')
		}
		if !slices.Contains(names, s) {
			names = append(names, s)
		}
		return -1 - slices.Index(names, s)
	}
	for _, rule := range strings.Split(text, ";") {
		left, cases, is := strings.Cut(rule, ":")
		n := -1 - symbol(strings.TrimSpace(left))
		if !is {
			continue // a name without productions
		}
		for _, c := range strings.Split(cases, "|") {
			p := api.Prod{Left: n}
			for _, s := range strings.Fields(c) {
				p.Right = append(p.Right, symbol(s))
			}
			g.Prods = append(g.Prods, p)
		}
	}
	g.Names = len(names)
	if !grammar.Ok(g) {
		t.Fatalf("%q is not valid: %+v", text, g)
	}
	return g
}

// letter is a terminal as a text; the end is $.
func letter(term, terms int) string {
	if term == terms {
		return "$"
	}
	return string(rune('a' + term))
}

// told is what a table does, state by state: a>1 shifts to state 1, a/1 reduces by production 1, $! accepts, 0>1 is a name that leads to state 1.
func told(g api.Grammar, x api.Table) []string {
	var out []string
	for s, acts := range x.Acts {
		var parts []string
		for term, a := range acts {
			l := letter(term, g.Terms)
			switch a.Kind {
			case api.ActShift:
				parts = append(parts, l+">"+strconv.Itoa(a.To))
			case api.ActReduce:
				parts = append(parts, l+"/"+strconv.Itoa(a.To))
			case api.ActAccept:
				parts = append(parts, l+"!")
			}
		}
		for n, to := range x.Gotos[s] {
			if to != -1 {
				parts = append(parts, strconv.Itoa(n)+">"+strconv.Itoa(to))
			}
		}
		out = append(out, strings.Join(parts, " "))
	}
	return out
}

// clashes are the conflicts of a table: state, terminal, kind, A, B.
func clashes(g api.Grammar, x api.Table) string {
	var out []string
	for _, c := range x.Conflicts {
		parts := []string{strconv.Itoa(c.State), letter(c.Term, g.Terms), strconv.Itoa(c.Kind), strconv.Itoa(c.A), strconv.Itoa(c.B)}
		out = append(out, strings.Join(parts, " "))
	}
	return strings.Join(out, ", ")
}

// made is the table of a grammar that must have one.
func made(t *testing.T, m maker, g api.Grammar) api.Table {
	t.Helper()
	x, err := m.of(g)
	if err != nil {
		t.Fatalf("%s of %+v: %v", m.name, g, err)
	}
	checkShape(t, g, x)
	return x
}

// checkShape asks what holds of every table: rows for each state, To of 0 where nothing is named, shifts and accepts where they can be.
func checkShape(t *testing.T, g api.Grammar, x api.Table) {
	t.Helper()
	if len(x.Acts) == 0 || len(x.Acts) > api.MaxTable || len(x.Acts) != len(x.Gotos) {
		t.Fatalf("%d rows of Acts, %d of Gotos", len(x.Acts), len(x.Gotos))
	}
	for s := range x.Acts {
		if len(x.Acts[s]) != g.Terms+1 || len(x.Gotos[s]) != g.Names {
			t.Fatalf("state %d: %d acts, %d gotos", s, len(x.Acts[s]), len(x.Gotos[s]))
		}
		for term, a := range x.Acts[s] {
			if !actHolds(g, x, term, a) {
				t.Fatalf("state %d at %d: %+v", s, term, a)
			}
		}
		for n, to := range x.Gotos[s] {
			if to < -1 || to >= len(x.Acts) {
				t.Fatalf("state %d by name %d: %d", s, n, to)
			}
		}
	}
}

func actHolds(g api.Grammar, x api.Table, term int, a api.Act) bool {
	switch a.Kind {
	case api.ActNone:
		return a.To == 0
	case api.ActShift:
		return term < g.Terms && a.To > 0 && a.To < len(x.Acts)
	case api.ActReduce:
		return a.To >= 0 && a.To < len(g.Prods)
	case api.ActAccept:
		return term == g.Terms && a.To == 0
	}
	return false
}

// checkFault asks for an error with a place, and for no table.
func checkFault(t *testing.T, name string, x api.Table, err, want error, at int) {
	t.Helper()
	fault, is := err.(*api.Fault)
	if !is || !errors.Is(err, want) || fault.Err != want || fault.At != at {
		t.Errorf("%s: %v (%+v), want %v at %d", name, err, fault, want, at)
	}
	checkNone(t, name, x)
}

func checkNone(t *testing.T, name string, x api.Table) {
	t.Helper()
	if !reflect.DeepEqual(x, api.Table{}) {
		t.Errorf("%s: there is a table beside the error", name)
	}
}

// dice gives the same numbers each time.
type dice struct{ seed uint32 }

func (d *dice) next(n int) int {
	d.seed = d.seed*1664525 + 1013904223
	return int(d.seed>>8) % n
}

// grammar is a small one of which each production is used.
func (d *dice) grammar() api.Grammar {
	for {
		g := d.wild()
		if len(g.Prods) > 0 && !slices.Contains(grammar.Used(g), false) {
			return g
		}
	}
}

// wild is a small one of which productions may be of no use.
func (d *dice) wild() api.Grammar {
	g := api.Grammar{Terms: d.next(5), Names: 1 + d.next(4)}
	g.Start = d.next(g.Names)
	for range d.next(8) {
		p := api.Prod{Left: d.next(g.Names)}
		for range d.next(4) {
			if g.Terms > 0 && d.next(5) < 3 {
				p.Right = append(p.Right, d.next(g.Terms))
			} else {
				p.Right = append(p.Right, -1-d.next(g.Names))
			}
		}
		g.Prods = append(g.Prods, p)
	}
	if d.next(2) == 0 {
		d.setLevels(&g)
	}
	return g
}

// twins is a grammar of which names are of the same form, and stand between different terminals: states of LR1 often differ in looks alone.
func (d *dice) twins() api.Grammar {
	for {
		g := api.Grammar{Terms: 5, Names: 3}
		for pair := range 4 {
			g.Prods = append(g.Prods, api.Prod{Right: []int{pair % 2, -2 - d.next(2), 3 + pair/2}})
		}
		for n := 1; n < 3; n++ {
			g.Prods = append(g.Prods, api.Prod{Left: n, Right: []int{2}})
			if d.next(3) == 0 {
				g.Prods = append(g.Prods, api.Prod{Left: n, Right: [][]int{{2, 2}, {2, -1 - n}, {}}[d.next(3)]})
			}
		}
		if !slices.Contains(grammar.Used(g), false) {
			return g
		}
	}
}

func (d *dice) setLevels(g *api.Grammar) {
	for range 1 + d.next(3) {
		g.Sides = append(g.Sides, 1+d.next(3))
	}
	if d.next(6) > 0 {
		for range g.Terms {
			g.Levels = append(g.Levels, d.next(len(g.Sides)+1))
		}
	}
	for i := range g.Prods {
		g.Prods[i].Level = d.next(len(g.Sides) + 1)
	}
}
