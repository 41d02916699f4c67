package repair_test

import (
	"slices"
	"testing"

	"grammarsmith/api"
)

// adder puts names to a grammar that have one sentence each.
type adder struct{ api.Grammar }

// name puts one to the others that becomes these symbols, and gives it as a symbol.
func (a *adder) name(right ...int) int {
	a.Prods = append(a.Prods, api.Prod{Left: a.Names, Right: right})
	a.Names++
	return -a.Names
}

// times gives at most MaxRight symbols that stand for so many of one.
func (a *adder) times(symbol, times int) []int {
	out := row(symbol, times%api.MaxRight)
	if times >= api.MaxRight {
		out = append(out, a.times(a.name(row(symbol, api.MaxRight)...), times/api.MaxRight)...)
	}
	if last := api.MaxRight - 1; len(out) > api.MaxRight {
		out = append(slices.Clone(out[:last]), a.name(out[last:]...))
	}
	return out
}

// start lets Start become some symbols, too.
func (a *adder) start(right []int) {
	a.Prods = append(a.Prods, api.Prod{Right: right})
}

func newAdder(terms int) *adder {
	return &adder{api.Grammar{Terms: terms, Names: 1}}
}

// many has just so many of the terminal 0 as its sentence.
func many(times int) api.Grammar {
	a := newAdder(1)
	a.start(a.times(0, times))
	return a.Grammar
}

// P91: a sentence of just MaxMended terminals, and of more.
func TestMaxMended(t *testing.T) {
	for _, length := range []int{1, 19, 20, 21, 399, 400, 401, 777, api.MaxMended - 1, api.MaxMended} {
		for _, given := range []int{0, 1, 30, api.MaxWords} {
			checkMend(t, "so many", many(length), ones(1), row(0, given), row(0, length), max(length-given, given-length))
		}
	}
	for _, length := range []int{api.MaxMended + 1, api.MaxMended + 2, 2*api.MaxMended + 1, 2*api.MaxMended + 2, 2*api.MaxMended + 3, 4000, 8000, 1_000_000, 1_060_000, 1_060_001, 1_100_000, 1 << 31, 1 << 62} {
		for _, given := range []int{0, 1, api.MaxWords} {
			for _, cost := range []int{1, 2, api.MaxCost} {
				checkError(t, "more", many(length), api.Costs{Put: row(cost, 1), Leave: row(1, 1)}, row(0, given), api.ErrBound)
			}
		}
	}
}

// P91: that a sentence is too long matters only if it is the nearest.
func TestTooLong(t *testing.T) {
	for _, x := range []struct {
		name  string
		long  int // how often a stands in one sentence
		short int // how often b stands in the other
		put   [2]int
		cost  int // of the short one; 0: the long one is nearer
	}{
		{"cheaper, if it is long", 1001, 2, [2]int{1, 1000}, 0},
		{"dearer", 1001, 1, [2]int{1, 1000}, 1000},
		{"as dear: fewer terminals", 1002, 2, [2]int{1, 501}, 1002},
		{"as dear: just one less", 1001, 1000, [2]int{1, 1}, 1000},
		{"as dear, both too long", 2002, 1001, [2]int{1, 2}, 0},
		{"cheaper, but just one more", 1001, 1000, [2]int{1, 2}, 0},
		{"much dearer", 1 << 40, 1000, [2]int{1, 1000}, 1_000_000},
		{"a bit dearer", 1_000_001, 1000, [2]int{1, 1000}, 1_000_000},
		{"as dear as the dearest", 1_000_000, 1000, [2]int{1, 1000}, 1_000_000},
		{"a bit cheaper than the dearest", 999_999, 1000, [2]int{1, 1000}, 0},
		{"much cheaper", 600_000, 1000, [2]int{1, 1000}, 0},
		{"dearer than all that is told", 1 << 50, 1001, [2]int{1000, 1000}, 0},
	} {
		for _, shortFirst := range []bool{true, false} {
			a := newAdder(3)
			long, short := a.times(0, x.long), a.times(1, x.short)
			if shortFirst {
				a.start(short)
				a.start(long)
			} else {
				a.start(long)
				a.start(short)
			}
			c := api.Costs{Put: []int{x.put[0], x.put[1], 1}, Leave: []int{1, 1, api.MaxCost}}
			for _, given := range []int{0, 1, api.MaxWords} { // c, which is always left out
				if x.cost > 0 {
					checkMend(t, x.name, a.Grammar, c, row(2, given), row(1, x.short), x.cost+given*api.MaxCost)
				} else {
					checkError(t, x.name, a.Grammar, c, row(2, given), api.ErrBound)
				}
			}
		}
	}
}

// P91: a name may be too long to be put in, and still stand in the sentence by what is given, or not at all.
func TestTooLongWithin(t *testing.T) {
	a := newAdder(3)
	long := a.name(a.times(0, 2000)...)
	a.start([]int{1, long, 1})
	a.Prods = append(a.Prods, api.Prod{Left: -1 - long, Right: []int{2}})
	c := api.Costs{Put: []int{1, 1, api.MaxCost}, Leave: row(1, 3)}
	checkMend(t, "put in otherwise", a.Grammar, c, terms("bb"), terms("bcb"), api.MaxCost)
	checkMend(t, "as given", a.Grammar, c, terms("bcb"), terms("bcb"), 0)
	checkMend(t, "ahead", a.Grammar, c, terms("cb"), terms("bcb"), 1)
	a.Prods[len(a.Prods)-1].Right = []int{2, 2, 2}
	checkError(t, "cheaper than three dear ones", a.Grammar, c, terms("bb"), api.ErrBound)
	checkMend(t, "one of the dear ones", a.Grammar, c, terms("bccb"), terms("bcccb"), api.MaxCost)
	checkMend(t, "all of the dear ones", a.Grammar, c, terms("ccc"), terms("bcccb"), 2)
	checkError(t, "cheaper than two dear ones", a.Grammar, c, append(append(terms("bc"), row(0, 57)...), 1), api.ErrBound)
}

// P91: names of as many terminals as can be: one within another, each so many times.
func TestHugeSentences(t *testing.T) {
	for wide, length := range map[int]int{2: api.MaxWords, 3: 40, api.MaxRight: 20} {
		g := api.Grammar{Terms: 2, Names: api.MaxSyms}
		for n := range g.Names - 1 {
			g.Prods = append(g.Prods, api.Prod{Left: n, Right: row(-2-n, wide)})
		}
		last := api.Prod{Left: g.Names - 1, Right: []int{0}}
		for _, in := range [][]int{nil, {0}, row(0, length), row(1, length)} {
			one := g
			one.Prods = append(slices.Clone(g.Prods), last)
			checkError(t, "one sentence", one, ones(2), in, api.ErrBound)
			out := one
			out.Prods = append(slices.Clone(one.Prods), api.Prod{Left: 100, Right: []int{1}}, api.Prod{Right: []int{1, 1}})
			want, cost := []int{1, 1}, 2+len(in)
			if slices.Contains(in, 1) {
				cost = len(in) - 2
			}
			checkMend(t, "a way out", out, ones(2), in, want, cost)
			empty := one
			empty.Prods = append(slices.Clone(g.Prods), api.Prod{Left: g.Names - 1}, last)
			want, cost = in, 0
			if slices.Contains(in, 1) {
				want, cost = nil, len(in)
			}
			checkMend(t, "empty", empty, ones(2), in, want, cost)
		}
	}
}
