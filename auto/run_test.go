package auto_test

import (
	"math"
	"strings"
	"testing"

	"grammarsmith/api"
	"grammarsmith/auto"
	"grammarsmith/points"
)

// P31: texts, also with bytes that belong to no code point.
func TestRun(t *testing.T) {
	a := api.Auto{States: states{
		{Rule: -1, Moves: moves{{Lo: 'a', Hi: 'c', To: 1}, {Lo: 'd', Hi: 'd', To: 2}, {Lo: 0xFFFD, Hi: 0xFFFD, To: 3}, {Lo: api.MaxPoint, Hi: api.MaxPoint, To: 0}}},
		{Rule: 5, Moves: moves{{Lo: 0, Hi: 'a', To: 0}, {Lo: 0xE9, Hi: 0xE9, To: 1}}},
		{Rule: 0},
		{Rule: 7, Moves: moves{{Lo: 0xD800, Hi: 0xDFFF, To: 2}, {Lo: 0xFFFD, Hi: 0xFFFD, To: 3}}},
	}}
	for _, c := range []struct {
		text string
		want int
	}{
		{"", -1}, {"a", 5}, {"b", 5}, {"c", 5}, {"d", 0}, {"e", -1}, {"`", -1}, {"da", -1}, {"dd", -1},
		{"aa", -1}, {"aab", 5}, {"a\x00c", 5}, {"ab", -1}, {"aé", 5}, {"aéé", 5}, {"aéaa", 5}, {"é", -1},
		{"\U0010FFFFd", 0}, {"\U0010FFFF", -1}, {"\U0010FFFE", -1},
		{"\uFFFD", 7}, {"\xff", 7}, {"\xc3", 7}, {"\xff\xfe", 7}, {"\xed\xa0\x80", 7}, {"a\xc3", -1}, {"a\xc3\xa9", 5},
		{"eeeeeeee", -1}, {strings.Repeat("aa", 50000) + "a", 5},
	} {
		if got := auto.Run(a, c.text); got != c.want {
			t.Errorf("Run of %.20q is %d, want %d", c.text, got, c.want)
		}
	}
	for _, s := range []string{"", "a"} {
		if got := auto.Run(api.Auto{}, s); got != -1 {
			t.Errorf("without states: Run of %q is %d", s, got)
		}
	}
}

func TestRunOfManyAutomata(t *testing.T) {
	d := &dice{seed: 5}
	all := texts(3, "a", "b", "c", "\x00", "\uD7FF", "\uE000", "\xff", "\U0010FFFF")
	for range 300 {
		a := d.automaton(6, 3)
		for _, s := range all {
			if got, want := auto.Run(a, s), walk(a, points.Points(s)); got != want {
				t.Fatalf("Run of %q is %d, want %d: %v", s, got, want, a)
			}
		}
	}
}

// Step goes where Run goes; what is no state leads nowhere.
func TestStep(t *testing.T) {
	d := &dice{seed: 9}
	for range 200 {
		a := d.automaton(5, 2)
		for state := range a.States {
			for _, p := range append(edges(a), 'a', 'b', -1, api.MaxPoint, api.MaxPoint+1) {
				if got, want := auto.Step(a, state, p), stepFrom(a, state, p); got != want {
					t.Fatalf("from %d by %d to %d, want %d: %v", state, p, got, want, a)
				}
			}
		}
		for _, state := range []int{-1, -2, len(a.States), math.MaxInt, math.MinInt} {
			if got := auto.Step(a, state, 'a'); got != -1 {
				t.Fatalf("from %d to %d", state, got)
			}
		}
	}
	if got := auto.Step(api.Auto{}, 0, 'a'); got != -1 {
		t.Errorf("without states: %d", got)
	}
}
