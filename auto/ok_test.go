package auto_test

import (
	"math"
	"testing"

	"grammarsmith/api"
	"grammarsmith/auto"
)

// ring has so many states, each with a move to the next one.
func ring(count int) api.Auto {
	var a api.Auto
	for i := range count {
		a.States = append(a.States, api.State{Rule: -1, Moves: moves{{Lo: 'a', Hi: 'a', To: (i + 1) % count}}})
	}
	if count > 0 {
		a.States[0].Rule = 0
	}
	return a
}

func withMoves(l ...api.Move) api.Auto {
	return api.Auto{States: states{{Rule: 0, Moves: l}, {Rule: -1}}}
}

func validAutos() map[string]api.Auto {
	return map[string]api.Auto{
		"no states":           {},
		"an empty list":       {States: states{}},
		"one state":           {States: states{{Rule: 0}}},
		"that takes nothing":  {States: states{{Rule: -1}}},
		"a great rule":        {States: states{{Rule: math.MaxInt}}},
		"all points":          withMoves(api.Move{Lo: 0, Hi: api.MaxPoint, To: 1}),
		"the first point":     withMoves(api.Move{Lo: 0, Hi: 0, To: 1}),
		"the last point":      withMoves(api.Move{Lo: api.MaxPoint, Hi: api.MaxPoint, To: 0}),
		"moves that touch":    withMoves(api.Move{Lo: 3, Hi: 4, To: 1}, api.Move{Lo: 5, Hi: 6, To: 1}),
		"to different states": withMoves(api.Move{Lo: 3, Hi: 4, To: 1}, api.Move{Lo: 5, Hi: 6, To: 0}),
		"halves of pairs":     withMoves(api.Move{Lo: 0xD800, Hi: 0xDFFF, To: 1}),
		"never come to":       {States: states{{Rule: 0}, {Rule: 7, Moves: moves{{Lo: 1, Hi: 2, To: 0}}}}},
		"MaxStates":           ring(api.MaxStates),
	}
}

func wrongAutos() map[string]api.Auto {
	const last = api.MaxPoint
	return map[string]api.Auto{
		"a rule below -1":             {States: states{{Rule: -2}}},
		"a rule far below":            {States: states{{Rule: math.MinInt}}},
		"a second rule below -1":      {States: states{{Rule: 0}, {Rule: -2}}},
		"moves that meet at a point":  withMoves(api.Move{Lo: 3, Hi: 5, To: 1}, api.Move{Lo: 5, Hi: 6, To: 1}),
		"moves that overlap":          withMoves(api.Move{Lo: 3, Hi: 8, To: 1}, api.Move{Lo: 4, Hi: 6, To: 1}),
		"the same move twice":         withMoves(api.Move{Lo: 3, Hi: 3, To: 1}, api.Move{Lo: 3, Hi: 3, To: 1}),
		"moves out of order":          withMoves(api.Move{Lo: 5, Hi: 6, To: 1}, api.Move{Lo: 3, Hi: 4, To: 1}),
		"a move that goes backwards":  withMoves(api.Move{Lo: 6, Hi: 5, To: 1}),
		"a move that begins below 0":  withMoves(api.Move{Lo: -1, Hi: 5, To: 1}),
		"a move that lies below 0":    withMoves(api.Move{Lo: -5, Hi: -1, To: 1}),
		"a move above all points":     withMoves(api.Move{Lo: 5, Hi: last + 1, To: 1}),
		"a move that lies above them": withMoves(api.Move{Lo: last + 1, Hi: last + 1, To: 1}),
		"a move of all numbers":       withMoves(api.Move{Lo: math.MinInt, Hi: math.MaxInt, To: 1}),
		"a move to no state":          withMoves(api.Move{Lo: 5, Hi: 5, To: 2}),
		"a move to -1":                withMoves(api.Move{Lo: 5, Hi: 5, To: -1}),
		"a move far away":             withMoves(api.Move{Lo: 5, Hi: 5, To: math.MaxInt}),
		"wrong where never come to":   {States: states{{Rule: 0}, {Rule: 0, Moves: moves{{Lo: 2, Hi: 1, To: 0}}}}},
		"one more than MaxStates":     ring(api.MaxStates + 1),
		"many more than MaxStates":    ring(100000),
	}
}

// P30.
func TestOk(t *testing.T) {
	for name, a := range validAutos() {
		if !auto.Ok(a) {
			t.Errorf("%s: not valid", name)
		}
	}
	for name, a := range wrongAutos() {
		if auto.Ok(a) {
			t.Errorf("%s: valid", name)
		}
	}
}

// P1, P31, P32, P35, P36: what the others answer of automata that are not valid.
func TestWhatIsNotValid(t *testing.T) {
	good := of(t, "a*")
	for name, a := range wrongAutos() {
		for _, s := range []string{"", "a", "\x05", "\xff"} {
			if got := auto.Run(a, s); got != -1 {
				t.Errorf("%s: Run of %q is %d", name, s, got)
			}
		}
		if got := auto.Least(a); len(got.States) != 0 {
			t.Errorf("%s: Least has %d states", name, len(got.States))
		}
		for _, l := range [][2]api.Auto{{a, good}, {good, a}, {a, a}, {a, {}}} {
			if s, found := auto.Apart(l[0], l[1]); s != "" || found {
				t.Errorf("%s: Apart is %q, %v", name, s, found)
			}
		}
		for _, rule := range []int{-2, -1, 0, 7} {
			if s, found := auto.First(a, rule); s != "" || found {
				t.Errorf("%s: First is %q, %v", name, s, found)
			}
		}
		for _, n := range []int{-1, 0, 1, 200, 201} {
			if got := auto.Count(a, n); got != "0" {
				t.Errorf("%s: Count at %d is %s", name, n, got)
			}
		}
	}
}
