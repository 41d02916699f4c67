package parse_test

import (
	"slices"
	"testing"

	"grammarsmith/api"
	"grammarsmith/parse"
)

// runs gives lists of a's of these lengths, with a b behind each.
func runs(lengths ...int) []int {
	var out []int
	for _, n := range lengths {
		out = append(append(out, slices.Repeat([]int{0}, n)...), 1)
	}
	return out
}

// most is how many a's of A : a A | nothing are put together by as many reductions as may be.
const most = api.MaxReduce - 1

// P71: as many reductions as may be ahead of each terminal, and of the end; one more is ErrBound.
func TestBound(t *testing.T) {
	g := of(t, "SAbAbA", "AaA", "A")
	for _, m := range makers {
		x := made(t, m, g)
		end := func(lengths ...int) []int { // S itself is one reduction more at the end
			in := runs(lengths...)
			return in[:len(in)-1]
		}
		for _, in := range [][]int{end(0, 0, 0), end(most, 0, 0), end(0, most, 0), end(0, 0, most-1), end(most, most, most-1)} {
			r, err := parse.Parse(g, x, in)
			if err != nil || !parse.Sound(g, r, in) {
				t.Errorf("%s: %d terminals: %v", m.name, len(in), err)
			}
		}
		checkFault(t, "first", g, x, end(most+1, 0, 0), api.ErrBound, most+1)
		checkFault(t, "second", g, x, end(0, most+1, 0), api.ErrBound, 1+most+1)
		checkFault(t, "second", g, x, end(most, most+1, most), api.ErrBound, most+1+most+1)
		checkFault(t, "end", g, x, end(0, 0, most), api.ErrBound, 2+most)
		checkFault(t, "end", g, x, end(most, most, most), api.ErrBound, 3*most+2)
		checkFault(t, "far more", g, x, end(3*most, 0, 0), api.ErrBound, 3*most)
	}
}

// P72: Next counts the reductions ahead of each terminal, too.
func TestBoundOfNext(t *testing.T) {
	g := of(t, "SAbAbA", "AaA", "A")
	x := made(t, makers[1], g)
	for _, c := range []struct {
		in   []int
		want []int
	}{
		{slices.Repeat([]int{0}, most), []int{0, 1}},
		{slices.Repeat([]int{0}, most+1), []int{0}}, // b would be behind too many reductions
		{runs(most), []int{0, 1}},
		{append(runs(most), slices.Repeat([]int{0}, most)...), []int{0, 1}},
		{append(runs(most), slices.Repeat([]int{0}, most+1)...), []int{0}},
		{append(runs(most, most), slices.Repeat([]int{0}, most-1)...), []int{0, 2}},
		{append(runs(most, most), slices.Repeat([]int{0}, most)...), []int{0}},
		{runs(most + 1), nil},
	} {
		if got := parse.Next(g, x, c.in); !slices.Equal(got, c.want) {
			t.Errorf("%d terminals: %v, want %v", len(c.in), got, c.want)
		}
	}
}

// P71: tables that would reduce for ever.
func TestForEver(t *testing.T) {
	g := of(t, "SS", "S", "Sa", "SSS")
	for name, c := range map[string]struct {
		rows []string
		in   string
		at   int
	}{
		"more and more trees, at once":  {[]string{"/1 /1|0"}, "a", 0},
		"more and more trees, at end":   {[]string{">0 /1|0"}, "aaa", 3},
		"a node within a node":          {[]string{">1 .|1", ">1 /0|1"}, "a", 1},
		"in the middle":                 {[]string{">1 .|1", "/0 .|."}, "aa", 1},
		"to and fro":                    {[]string{"/1 /1|1", "/1 /1|0"}, "aa", 0},
		"trees put on and put together": {[]string{"/1 .|1", "/1 .|2", "/3 .|1"}, "a", 0},
	} {
		x := fitting(t, g, c.rows...)
		checkFault(t, name, g, x, terms(c.in), api.ErrBound, c.at)
		if got := parse.Next(g, x, terms(c.in)); slices.Contains(got, g.Terms) {
			t.Errorf("%s: Next: %v", name, got)
		}
	}
}

// P71: in all there may be far more.
func TestBoundIsOfEachTerminal(t *testing.T) {
	g := of(t, "SSA", "S", "Aa")
	in := slices.Repeat([]int{0}, 3*api.MaxReduce)
	for _, m := range makers {
		r, err := parse.Parse(g, made(t, m, g), in)
		if err != nil || !parse.Sound(g, r, in) {
			t.Errorf("%s: %v", m.name, err)
		}
	}
}
