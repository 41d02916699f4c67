package auto_test

import (
	"slices"
	"testing"

	"grammarsmith/api"
	"grammarsmith/auto"
	"grammarsmith/pattern"
)

type (
	moves  = []api.Move
	states = []api.State
)

func setOf(ranges ...api.Range) *api.Re { return &api.Re{Kind: api.RSet, Set: ranges} }
func span(lo, hi int) *api.Re           { return setOf(api.Range{Lo: lo, Hi: hi}) }
func one(p int) *api.Re                 { return span(p, p) }
func cat(kids ...*api.Re) *api.Re       { return &api.Re{Kind: api.RCat, Kids: kids} }
func or(kids ...*api.Re) *api.Re        { return &api.Re{Kind: api.ROr, Kids: kids} }
func and(kids ...*api.Re) *api.Re       { return &api.Re{Kind: api.RAnd, Kids: kids} }
func not(kid *api.Re) *api.Re           { return &api.Re{Kind: api.RNot, Kids: []*api.Re{kid}} }
func rep(kid *api.Re, least, most int) *api.Re {
	return &api.Re{Kind: api.RRep, Min: least, Max: most, Kids: []*api.Re{kid}}
}

func read(t *testing.T, s string) *api.Re {
	t.Helper()
	p, err := pattern.Read(s)
	if err != nil {
		t.Fatalf("Read(%q): %v", s, err)
	}
	return p
}

func readAll(t *testing.T, l ...string) []*api.Re {
	t.Helper()
	var out []*api.Re
	for _, s := range l {
		out = append(out, read(t, s))
	}
	return out
}

func of(t *testing.T, s string) api.Auto {
	t.Helper()
	a, err := auto.Of(read(t, s))
	if err != nil {
		t.Fatalf("Of(%q): %v", s, err)
	}
	return a
}

func same(a, b api.Auto) bool {
	return slices.EqualFunc(a.States, b.States, func(x, y api.State) bool {
		return x.Rule == y.Rule && slices.Equal(x.Moves, y.Moves)
	})
}

func copyOf(a api.Auto) api.Auto {
	var out api.Auto
	for _, s := range a.States {
		out.States = append(out.States, api.State{Rule: s.Rule, Moves: slices.Clone(s.Moves)})
	}
	return out
}

// walk gives the rule of a list of points by the words of P30 alone: also of points that no text has.
func walk(a api.Auto, l []int) int {
	at := 0
	if len(a.States) == 0 {
		return -1
	}
	for _, p := range l {
		at = stepFrom(a, at, p)
		if at < 0 {
			return -1
		}
	}
	return a.States[at].Rule
}

func stepFrom(a api.Auto, at, p int) int {
	for _, m := range a.States[at].Moves {
		if m.Lo <= p && p <= m.Hi {
			return m.To
		}
	}
	return -1
}

// edges are the points at which something changes in one of the automata, and the first point.
func edges(l ...api.Auto) []int {
	out := []int{0}
	for _, a := range l {
		for _, s := range a.States {
			for _, m := range s.Moves {
				out = append(out, m.Lo, m.Hi+1)
			}
		}
	}
	slices.Sort(out)
	return slices.DeleteFunc(slices.Compact(out), func(p int) bool { return p > api.MaxPoint })
}

// differ says whether there is a list of points of which two automata say different things, from two states on; -1 is no state.
func differ(a, b api.Auto, x, y int) bool {
	type pair struct{ x, y int }
	rule := func(c api.Auto, at int) int {
		if at < 0 {
			return -1
		}
		return c.States[at].Rule
	}
	next := func(c api.Auto, at, p int) int {
		if at < 0 {
			return -1
		}
		return stepFrom(c, at, p)
	}
	at := edges(a, b)
	met := map[pair]bool{{x, y}: true}
	for list := []pair{{x, y}}; len(list) > 0; list = list[1:] {
		if rule(a, list[0].x) != rule(b, list[0].y) {
			return true
		}
		for _, p := range at {
			to := pair{next(a, list[0].x, p), next(b, list[0].y, p)}
			if !met[to] {
				met[to] = true
				list = append(list, to)
			}
		}
	}
	return false
}

// runAlike says whether two automata give the same rule for every list of points.
func runAlike(a, b api.Auto) bool {
	first := func(c api.Auto) int {
		if len(c.States) == 0 {
			return -1
		}
		return 0
	}
	return !differ(a, b, first(a), first(b))
}

// checkLeast asks for all that P32 says of a least automaton, by its words.
func checkLeast(t *testing.T, name string, a api.Auto) {
	t.Helper()
	if !auto.Ok(a) {
		t.Fatalf("%s: not valid: %v", name, a)
	}
	if len(a.States) == 0 {
		return
	}
	met := 1
	for i, s := range a.States {
		if i >= met {
			t.Fatalf("%s: state %d is not come to in its order: %v", name, i, a)
		}
		for k, m := range s.Moves {
			if m.To > met {
				t.Fatalf("%s: state %d is come to too early: %v", name, m.To, a)
			}
			met = max(met, m.To+1)
			if k > 0 && s.Moves[k-1].Hi+1 == m.Lo && s.Moves[k-1].To == m.To {
				t.Fatalf("%s: two moves of state %d are one: %v", name, i, a)
			}
		}
	}
	for x := range a.States {
		if !differ(a, a, x, -1) {
			t.Fatalf("%s: from state %d nothing is taken: %v", name, x, a)
		}
		for y := range x {
			if !differ(a, a, x, y) {
				t.Fatalf("%s: states %d and %d are one: %v", name, x, y, a)
			}
		}
	}
}

// dice gives the same numbers each time.
type dice struct{ seed uint32 }

func (d *dice) next(n int) int {
	d.seed = d.seed*1664525 + 1013904223
	return int(d.seed>>8) % n
}

// automaton has up to so many states, with moves by few points: letters, around halves of pairs, and the last ones.
func (d *dice) automaton(most, rules int) api.Auto {
	cuts := []int{0, 'a', 'b', 'c', 'd', 0xD7FF, 0xD800, 0xDFFF, 0xE000, 0xFFFD, 0xFFFE, api.MaxPoint, api.MaxPoint + 1}
	var a api.Auto
	count := 1 + d.next(most)
	for range count {
		s := api.State{Rule: d.next(rules+2) - 2}
		s.Rule = max(s.Rule, -1)
		for i := range len(cuts) - 1 {
			if d.next(3) > 0 {
				s.Moves = append(s.Moves, api.Move{Lo: cuts[i], Hi: cuts[i+1] - 1, To: d.next(count)})
			}
		}
		a.States = append(a.States, s)
	}
	return a
}

// pattern is a pattern of at most so many levels, most of them valid.
func (d *dice) pattern(levels int) *api.Re {
	kind := 1 + d.next(6)
	if levels == 0 || d.next(4) == 0 {
		kind = api.RSet
	}
	switch kind {
	case api.RCat:
		count := d.next(4)
		if count == 1 {
			count = 3
		}
		return cat(d.kids(levels-1, count)...)
	case api.ROr:
		return or(d.kids(levels-1, 2+d.next(2))...)
	case api.RAnd:
		return and(d.kids(levels-1, 2+d.next(2))...)
	case api.RNot:
		return not(d.pattern(levels - 1))
	case api.RRep:
		least := d.next(3)
		if d.next(2) == 0 {
			return rep(d.pattern(levels-1), least, -1)
		}
		return rep(d.pattern(levels-1), least, max(least, 1)+d.next(3))
	}
	return d.set()
}

func (d *dice) kids(levels, count int) []*api.Re {
	var out []*api.Re
	for range count {
		out = append(out, d.pattern(levels))
	}
	return out
}

func (d *dice) set() *api.Re {
	switch d.next(9) {
	case 0:
		return setOf()
	case 1:
		return span(0, api.MaxPoint)
	case 2:
		return setOf(api.Range{Lo: 0, Hi: 9}, api.Range{Lo: 11, Hi: api.MaxPoint})
	case 3:
		return setOf(api.Range{Lo: 'a', Hi: 'a'}, api.Range{Lo: 'c', Hi: 'c'})
	case 4:
		return span('a', 'c')
	}
	return one('a' + d.next(3))
}

// validOnes are so many valid patterns of all kinds.
func validOnes(seed uint32, count int) []*api.Re {
	d := &dice{seed: seed}
	var out []*api.Re
	for len(out) < count {
		if p := d.pattern(5); pattern.Ok(p) {
			out = append(out, p)
		}
	}
	return out
}

// texts are all texts of up to so many of some pieces.
func texts(most int, pieces ...string) []string {
	out := []string{""}
	for from := 0; most > 0; most-- {
		end := len(out)
		for _, s := range out[from:end] {
			for _, c := range pieces {
				out = append(out, s+c)
			}
		}
		from = end
	}
	return out
}

// wrongPatterns are patterns that are not valid.
func wrongPatterns() map[string]*api.Re {
	deep, wide := one('a'), one('a')
	for range api.MaxNest + 1 {
		deep = not(deep)
	}
	for range 60 {
		wide = cat(wide, wide)
	}
	return map[string]*api.Re{
		"nil":                 nil,
		"no kind":             {},
		"another kind":        {Kind: 7},
		"a set not canonical": setOf(api.Range{Lo: 5, Hi: 9}, api.Range{Lo: 0, Hi: 4}),
		"a set below 0":       span(-1, 4),
		"a set above all":     span(0, api.MaxPoint+1),
		"a row of one":        cat(one('a')),
		"an or of one":        or(one('a')),
		"an and of none":      and(),
		"a not of none":       {Kind: api.RNot},
		"times of none":       {Kind: api.RRep, Max: 1},
		"times 0":             rep(one('a'), 0, 0),
		"times backwards":     rep(one('a'), 3, 2),
		"a nil kid":           cat(one('a'), nil),
		"a nil kid inside":    or(one('a'), not(rep(nil, 0, -1))),
		"too deep":            deep,
		"too heavy":           rep(rep(one('a'), 2, 2), 50, 50),
		"too wide":            wide,
	}
}
