package table_test

import (
	"slices"
	"testing"

	"grammarsmith/api"
)

// reads drives a table over a text of letters; it ends, since a table without conflicts does not reduce for ever.
func reads(t *testing.T, g api.Grammar, x api.Table, in string) bool {
	t.Helper()
	states := []int{0}
	for range 1000 {
		term := g.Terms
		if in != "" {
			term = int(in[0] - 'a')
		}
		switch a := x.Acts[states[len(states)-1]][term]; a.Kind {
		case api.ActNone:
			return false
		case api.ActAccept:
			return len(states) == 2
		case api.ActShift:
			states, in = append(states, a.To), in[1:]
		case api.ActReduce:
			p := g.Prods[a.To]
			states = states[:len(states)-len(p.Right)]
			states = append(states, x.Gotos[states[len(states)-1]][p.Left])
		}
	}
	t.Fatalf("%+v does not end", g)
	return false
}

// sentences finds all of at most so many terminals, of each name.
func sentences(g api.Grammar, length int) []map[string]bool {
	out := make([]map[string]bool, g.Names)
	for n := range out {
		out[n] = map[string]bool{}
	}
	for again := true; again; {
		again = false
		for _, p := range g.Prods {
			for _, s := range joined(g, p.Right, out, length) {
				if !out[p.Left][s] {
					out[p.Left][s], again = true, true
				}
			}
		}
	}
	return out
}

func joined(g api.Grammar, row []int, names []map[string]bool, length int) []string {
	out := []string{""}
	for _, s := range row {
		ends := []string{}
		if s >= 0 {
			ends = append(ends, letter(s, g.Terms))
		} else {
			for e := range names[-1-s] {
				ends = append(ends, e)
			}
		}
		var next []string
		for _, begin := range out {
			for _, e := range ends {
				if len(begin)+len(e) <= length {
					next = append(next, begin+e)
				}
			}
		}
		slices.Sort(next)
		out = slices.Compact(next)
	}
	return out
}

// texts gives all of at most so many terminals.
func texts(terms, length int) []string {
	out := []string{""}
	for i := 0; i < len(out); i++ {
		for term := range terms {
			if len(out[i]) < length {
				out = append(out, out[i]+letter(term, terms))
			}
		}
	}
	return out
}

// A table without conflicts, and without levels, reads the sentences of its grammar and nothing else.
func TestTablesRead(t *testing.T) {
	const length = 5
	d := &dice{seed: 64}
	seen := map[bool]int{}
	tables := [2]int{}
	for range 3000 {
		g := d.grammar()
		if g.Terms > 3 {
			continue
		}
		g.Levels = nil
		want := sentences(g, length)[g.Start]
		for i, m := range makers {
			x := made(t, m, g)
			if len(x.Conflicts) > 0 {
				continue
			}
			tables[i]++
			for _, in := range texts(g.Terms, length) {
				if got := reads(t, g, x, in); got != want[in] {
					t.Fatalf("%s of %+v: %q is read: %v", m.name, g, in, got)
				}
				seen[want[in]]++
			}
		}
	}
	if min(tables[0], tables[1]) < 200 || min(seen[true], seen[false]) < 1000 {
		t.Errorf("%v tables, texts %v", tables, seen)
	}
}

// Example 7: with the level left for a, b a b a b is read from the left: the first production is done ahead of the second a.
func TestReadsFromTheLeft(t *testing.T) {
	g := of(t, "E : E a E | b")
	for _, c := range []struct{ side, kind int }{{api.ToLeft, api.ActReduce}, {api.ToRight, api.ActShift}, {api.ToNone, api.ActNone}} {
		g.Sides, g.Levels, g.Prods[0].Level = []int{c.side}, []int{1, 0}, 1
		for _, m := range makers {
			x := made(t, m, g)
			if x.Acts[4][0].Kind != c.kind || len(x.Conflicts) != 0 {
				t.Errorf("%s: side %d: %v, conflicts %v", m.name, c.side, x.Acts[4], x.Conflicts)
			}
			if got := reads(t, g, x, "babab"); got != (c.side != api.ToNone) || !reads(t, g, x, "bab") {
				t.Errorf("%s: side %d: babab is read: %v", m.name, c.side, got)
			}
		}
	}
}
