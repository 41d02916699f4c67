package auto_test

import (
	"slices"
	"testing"

	"grammarsmith/api"
	"grammarsmith/auto"
	"grammarsmith/pattern"
)

// P33: ordinary patterns and the edges, by the numbers of their states.
func TestOf(t *testing.T) {
	for _, c := range []struct {
		pattern string
		states  int
	}{
		{"[0-9]+&~(0.+)", 3}, {"[]", 0}, {"[]*", 1}, {"[]+", 0}, {"[]?", 1}, {"a[]", 0}, {"[]a|b", 2}, {"", 1}, {"()*", 1}, {"(){3}", 1},
		{"~[]", 1}, {"~()", 2}, {"~~[]", 0}, {"[^]*", 1}, {"~([^]*)", 0}, {"[^]", 2}, {"a", 2}, {"~a", 3}, {"~~a", 2}, {".", 2}, {"a|b", 2}, {"a|b|c|ab", 3},
		{"a*", 1}, {"a+", 2}, {"a?", 2}, {"a{3}", 4}, {"a{3,}", 4}, {"a{2,5}", 6}, {"a{0,50}", 51}, {"a{50}", 51}, {"(ab)*", 2}, {"(a|b)*abb", 4}, {"(a*)*", 1}, {"(a*b*)*", 1}, {"(a?){3,}", 1},
		{"a&b", 0}, {"a&a", 2}, {"[ab]&[bc]", 2}, {"a*&b*", 1}, {"(aa)*&(aaa)*", 6}, {"(aa)*|(aaa)*", 6}, {".*a.*&.*b.*", 4}, {".*&~(.*a.*)", 1}, {"~(.*a.*)&~(.*b.*)", 3},
		{"~(a|b)", 3}, {"~a&~b", 3}, {"~(~a&~b)", 2}, {"abc|abd|xbd|xbc", 4}, {`/\*~([^]*\*/[^]*)\*/`, 5}, {"if|in|int", 4}, {"~a~b", 1},
	} {
		a := of(t, c.pattern)
		if len(a.States) != c.states {
			t.Errorf("%q: %d states, want %d: %v", c.pattern, len(a.States), c.states, a.States)
		}
		checkLeast(t, c.pattern, a)
		for _, s := range a.States {
			if s.Rule != 0 && s.Rule != -1 {
				t.Errorf("%q: rule %d", c.pattern, s.Rule)
			}
		}
	}
}

// P33: some automata, whole.
func TestOfWhole(t *testing.T) {
	const last = api.MaxPoint
	for _, c := range []struct {
		pattern string
		want    states
	}{
		{"b|a", states{{Rule: -1, Moves: moves{{Lo: 'a', Hi: 'b', To: 1}}}, {Rule: 0}}},
		{"ba|ab", states{
			{Rule: -1, Moves: moves{{Lo: 'a', Hi: 'a', To: 1}, {Lo: 'b', Hi: 'b', To: 2}}},
			{Rule: -1, Moves: moves{{Lo: 'b', Hi: 'b', To: 3}}}, {Rule: -1, Moves: moves{{Lo: 'a', Hi: 'a', To: 3}}}, {Rule: 0},
		}},
		{"~a", states{
			{Rule: 0, Moves: moves{{Lo: 0, Hi: 'a' - 1, To: 1}, {Lo: 'a', Hi: 'a', To: 2}, {Lo: 'a' + 1, Hi: last, To: 1}}},
			{Rule: 0, Moves: moves{{Lo: 0, Hi: last, To: 1}}},
			{Rule: -1, Moves: moves{{Lo: 0, Hi: last, To: 1}}},
		}},
		{`[\u{D800}\u{DFFF}-\u{E000}]`, states{{Rule: -1, Moves: moves{{Lo: 0xD800, Hi: 0xD800, To: 1}, {Lo: 0xDFFF, Hi: 0xE000, To: 1}}}, {Rule: 0}}},
		{"[ac]b|[bd]c", states{
			{Rule: -1, Moves: moves{{Lo: 'a', Hi: 'a', To: 1}, {Lo: 'b', Hi: 'b', To: 2}, {Lo: 'c', Hi: 'c', To: 1}, {Lo: 'd', Hi: 'd', To: 2}}},
			{Rule: -1, Moves: moves{{Lo: 'b', Hi: 'b', To: 3}}}, {Rule: -1, Moves: moves{{Lo: 'c', Hi: 'c', To: 3}}}, {Rule: 0},
		}},
	} {
		if got := of(t, c.pattern); !same(got, api.Auto{States: c.want}) {
			t.Errorf("%q: %v, want %v", c.pattern, got.States, c.want)
		}
	}
}

// P33: many patterns: the automaton is the least, and takes just what the pattern stands for.
func TestOfManyPatterns(t *testing.T) {
	all := texts(4, "a", "b", "c", "\n")
	met := 0
	for _, p := range validOnes(3, 1500) {
		a, err := auto.Of(p)
		text, _ := pattern.Write(p)
		if err != nil {
			t.Fatalf("%q: %v", text, err)
		}
		if len(a.States) <= 40 {
			checkLeast(t, text, a)
		}
		for _, s := range all {
			if taken := auto.Run(a, s) == 0; taken != pattern.Matches(p, s) {
				t.Fatalf("%q on %q: %v", text, s, taken)
			} else if taken {
				met++
			}
		}
	}
	if met < 10000 {
		t.Errorf("only %d texts are met", met)
	}
}

// P33: what patterns stand for, by what holds of all texts.
func TestOfPatternsThatAreAlike(t *testing.T) {
	for _, p := range validOnes(17, 150) {
		for _, q := range validOnes(23, 6) {
			for name, c := range map[string][2]*api.Re{
				"not and":    {not(and(p, q)), or(not(p), not(q))},
				"not or":     {not(or(p, q)), and(not(p), not(q))},
				"twice":      {rep(p, 2, 2), cat(p, p)},
				"up to two":  {rep(p, 0, 2), or(cat(), p, cat(p, p))},
				"at least":   {rep(p, 2, -1), cat(p, p, rep(p, 0, -1))},
				"on and on":  {rep(or(p, q), 0, -1), rep(cat(rep(p, 0, -1), rep(q, 0, -1)), 0, -1)},
				"not not":    {not(not(p)), p},
				"row of or":  {cat(p, or(p, q)), or(cat(p, p), cat(p, q))},
				"in any way": {or(p, not(p)), not(setOf())},
			} {
				a, errA := auto.Of(c[0])
				b, errB := auto.Of(c[1])
				if errA == nil && errB == nil && !same(a, b) {
					text, _ := pattern.Write(c[0])
					t.Fatalf("%s: %q: %v, %v", name, text, a, b)
				}
			}
		}
	}
}

// P33: sets of any points, also of very many ranges.
func TestOfGreatSets(t *testing.T) {
	every := &api.Re{Kind: api.RSet}
	for p := 0; p <= api.MaxPoint; p += 2 {
		every.Set = append(every.Set, api.Range{Lo: p, Hi: p})
	}
	a, err := auto.Of(rep(every, 2, 3))
	if err != nil || len(a.States) != 4 || len(a.States[0].Moves) != len(every.Set) {
		t.Errorf("%v, %d states", err, len(a.States))
	}
	if auto.Run(a, "bdf") != 0 || auto.Run(a, "bd") != 0 || auto.Run(a, "b") != -1 || auto.Run(a, "bdg") != -1 {
		t.Error("Run")
	}
	a, err = auto.Of(cat(rep(every, 0, -1), one('b'), rep(every, 9, 9)))
	if err != api.ErrBound || len(a.States) != 0 {
		t.Errorf("%v, %d states", err, len(a.States))
	}
	a, err = auto.Of(cat(slices.Repeat([]*api.Re{every}, 3)...))
	if err != nil || len(a.States) != 4 {
		t.Errorf("%v, %d states", err, len(a.States))
	}
}

// P33, P1: patterns that are not valid.
func TestOfWrongPatterns(t *testing.T) {
	for name, p := range wrongPatterns() {
		if a, err := auto.Of(p); err != api.ErrSyntax || a.States != nil {
			t.Errorf("%s: %v, %v", name, a, err)
		}
	}
}

// P4: what is handed in stays, and what is answered is new.
func TestOfSharesNothing(t *testing.T) {
	p := read(t, "(a|[b-d]*&~(..)|(c{2,3}|a)+)*")
	text, _ := pattern.Write(p)
	first, _ := auto.Of(p)
	want := copyOf(first)
	scribble(first)
	if now, _ := pattern.Write(p); now != text {
		t.Errorf("the pattern has changed: %q", now)
	}
	if again, _ := auto.Of(p); !same(again, want) {
		t.Errorf("the second answer is another one: %v", again)
	}
	l := []*api.Re{p, read(t, "[ab]+")}
	first, _ = auto.Rules(l)
	want = copyOf(first)
	scribble(first)
	if again, _ := auto.Rules(l); !same(again, want) {
		t.Errorf("the second answer is another one: %v", again)
	}
}
