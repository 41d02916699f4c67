package auto_test

import (
	"math"
	"math/big"
	"testing"

	"grammarsmith/api"
	"grammarsmith/auto"
)

// P36: ordinary patterns and the edges.
func TestCount(t *testing.T) {
	const points = api.MaxPoint + 1
	power := func(base int64, n int) string {
		return new(big.Int).Exp(big.NewInt(base), big.NewInt(int64(n)), nil).String()
	}
	for _, c := range []struct {
		pattern string
		n       int
		want    string
	}{
		{"[ab]{3}", 3, "8"}, {"[ab]{3}", 2, "0"}, {"[ab]{3}", 4, "0"}, {"[ab]{3}", 0, "0"}, {"", 0, "1"}, {"", 1, "0"}, {"[]", 0, "0"}, {"[]", 5, "0"}, {"a", 0, "0"}, {"a", 1, "1"},
		{"[^]*", 0, "1"}, {"[^]*", 1, "1114112"}, {"[^]*", 2, power(points, 2)}, {"[^]*", 199, power(points, 199)}, {"[^]*", 200, power(points, 200)}, {"[^]*", 201, "0"}, {"[^]*", -1, "0"},
		{"[^]*", math.MinInt, "0"}, {"[^]*", math.MaxInt, "0"}, {".*", 200, power(points-1, 200)}, {"[ab]*", 200, power(2, 200)}, {"a*", 200, "1"}, {"a*", 201, "0"}, {"[ab]*", 64, "18446744073709551616"},
		{"[a-j]*", 18, "1000000000000000000"}, {"[a-j]*", 19, "10000000000000000000"}, {"[a-j]*", 36, power(10, 36)}, {"[a-j]*", 200, power(10, 200)}, {"[ac]|b|a", 1, "3"},
		{`[\u{D800}-\u{DFFF}]`, 1, "2048"}, {`[\u{D7FF}-\u{E000}]{2}`, 2, power(2050, 2)}, {"~(.*)", 1, "1"}, {"~[]", 1, "1114112"}, {"a|aa|bb|bc", 2, "3"}, {"[0-9]+&~(0.+)", 3, "900"}, {"[ab]*a[ab]{7}", 50, power(2, 49)},
	} {
		if got := auto.Count(of(t, c.pattern), c.n); got != c.want {
			t.Errorf("%q at %d: %s, want %s", c.pattern, c.n, got, c.want)
		}
	}
	for _, n := range []int{-1, 0, 1, 200} {
		if got := auto.Count(api.Auto{}, n); got != "0" {
			t.Errorf("without states, at %d: %s", n, got)
		}
	}
}

// lists counts by the words of P36.
func lists(a api.Auto, state, n int) *big.Int {
	sum := new(big.Int)
	if n == 0 {
		if a.States[state].Rule >= 0 {
			sum.SetInt64(1)
		}
		return sum
	}
	for _, m := range a.States[state].Moves {
		sum.Add(sum, new(big.Int).Mul(big.NewInt(int64(m.Hi-m.Lo+1)), lists(a, m.To, n-1)))
	}
	return sum
}

// P36: many automata, with all their rules.
func TestCountOfManyAutomata(t *testing.T) {
	d := &dice{seed: 31}
	for range 200 {
		a := d.automaton(5, 3)
		for n := range 5 {
			if got, want := auto.Count(a, n), lists(a, 0, n).String(); got != want {
				t.Fatalf("at %d: %s, want %s: %v", n, got, want, a)
			}
		}
	}
}

// P36: as many states as there can be, each leading to each.
func TestCountOfManyStates(t *testing.T) {
	const most, n = api.MaxStates, 60
	var a api.Auto
	for range most {
		s := api.State{Rule: 1}
		for to := range most {
			s.Moves = append(s.Moves, api.Move{Lo: 2000 * to, Hi: 2000*to + 1999, To: to})
		}
		a.States = append(a.States, s)
	}
	want := new(big.Int).Exp(big.NewInt(2000*most), big.NewInt(n), nil).String()
	if got := auto.Count(a, n); got != want {
		t.Errorf("%s, want %s", got, want)
	}
	// With one state that is no end, each state is told apart by the points that lead there.
	for i := range most {
		a.States[i].Moves[0].To, a.States[i].Moves[i].To = i, 0
	}
	a.States[0].Rule = -1
	rest := new(big.Int).Sub(new(big.Int).Exp(big.NewInt(2000*most), big.NewInt(n), nil), new(big.Int).Mul(big.NewInt(2000), new(big.Int).Exp(big.NewInt(2000*most), big.NewInt(n-1), nil)))
	if got := auto.Count(a, n); got != rest.String() {
		t.Errorf("%s, want %s", got, rest)
	}
}

// P4: Run, Apart, First and Count leave what is handed in as it was, and say the same again.
func TestAnswersStay(t *testing.T) {
	a, b := of(t, "(a|b)*abb"), of(t, "(a|b)*ab")
	keptA, keptB := copyOf(a), copyOf(b)
	for range 2 {
		if auto.Run(a, "abb") != 0 || auto.Count(a, 10) != "128" {
			t.Error("Run or Count")
		}
		if s, _ := auto.Apart(a, b); s != "ab" {
			t.Errorf("Apart: %q", s)
		}
		if s, _ := auto.First(a, 0); s != "abb" {
			t.Errorf("First: %q", s)
		}
		if !same(a, keptA) || !same(b, keptB) {
			t.Error("what was handed in has changed")
		}
	}
}
