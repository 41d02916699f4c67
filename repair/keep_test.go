package repair_test

import (
	"math"
	"reflect"
	"slices"
	"testing"

	"grammarsmith/api"
	"grammarsmith/grammar"
	"grammarsmith/repair"
)

// roomy gives a list that has room behind its end, where marks show who writes there.
func roomy[T any](l []T, mark T) []T {
	out := append(slices.Clone(l), mark, mark, mark)
	return out[:len(l)]
}

// whole is a copy of a list with what stands behind its end.
func whole[T any](l []T) []T {
	return slices.Clone(l[:cap(l)])
}

// scribble writes into all of a list, also behind its end.
func scribble[T any](l []T, v T) {
	l = l[:cap(l)]
	for i := range l {
		l[i] = v
	}
}

// asked is all that is given to a Mend, or to a Cost.
type asked struct {
	g       api.Grammar
	c       api.Costs
	in, out []int
}

// spacious has room behind all of its lists.
func (a asked) spacious() asked {
	g := a.g
	g.Levels, g.Sides, g.Prods = roomy(g.Levels, 77), roomy(g.Sides, 77), roomy(g.Prods, api.Prod{Left: 77})
	for i := range g.Prods {
		g.Prods[i].Right = roomy(g.Prods[i].Right, 77)
	}
	return asked{g, api.Costs{Put: roomy(a.c.Put, 77), Leave: roomy(a.c.Leave, 77)}, roomy(a.in, 77), roomy(a.out, 77)}
}

// deep is a copy with what stands behind the ends of the lists.
func (a asked) deep() asked {
	g := a.g
	g.Levels, g.Sides, g.Prods = whole(g.Levels), whole(g.Sides), whole(g.Prods)
	for i, p := range g.Prods {
		g.Prods[i].Right = whole(p.Right)
	}
	return asked{g, api.Costs{Put: whole(a.c.Put), Leave: whole(a.c.Leave)}, whole(a.in), whole(a.out)}
}

// answer is all that is answered.
type answer struct {
	terms      []int
	cost, turn int
	err        error
}

func (a asked) answer() answer {
	l, cost, err := repair.Mend(a.g, a.c, a.in)
	return answer{l, cost, repair.Cost(a.c, a.in, a.out), err}
}

func (a answer) same(b answer) bool {
	return slices.Equal(a.terms, b.terms) && a.cost == b.cost && a.turn == b.turn && a.err == b.err
}

// samples are of each kind: what is as it should be, what is mended, and each error.
func samples(t *testing.T) []asked {
	levels := of(t, "SSaS SSbS Sa Sb")
	levels.Levels, levels.Sides = []int{1, 2}, []int{api.ToLeft, api.ToRight}
	levels.Prods[0].Level, levels.Prods[1].Level = 1, 2
	wrong := of(t, "SaSb S")
	wrong.Prods[1].Left = 9
	var out []asked
	for _, g := range []api.Grammar{levels, wrong, of(t, "SaSb S"), of(t, "SAB A AB B BA Aa Bb"), of(t, "SSS Sab Sbb"), of(t, "Sab AA"), of(t, "SaSb"), many(1001), many(900)} {
		for _, in := range []string{"", "ab", "aba", "aabb", "ba", "abababab", "acb"} {
			for _, c := range []api.Costs{ones(g.Terms), {Put: row(3, g.Terms), Leave: row(2, g.Terms)}, {Put: row(1, 2), Leave: row(2000, 2)}} {
				out = append(out, asked{g, c, terms(in), terms("bba")})
			}
		}
	}
	return out
}

// P4: what is handed in stays as it is, also behind the ends of its lists.
func TestInputStays(t *testing.T) {
	for _, a := range samples(t) {
		a = a.spacious()
		ahead := a.deep()
		a.answer()
		if !reflect.DeepEqual(a.deep(), ahead) {
			t.Errorf("has changed: %+v, was %+v", a, ahead)
		}
	}
}

// P4: what is answered is new: it is none of what was given, also if it is the same, and what is written into it changes nothing.
func TestAnswersAreNew(t *testing.T) {
	for _, a := range samples(t) {
		a = a.spacious()
		ahead, want, kept := a.deep(), a.answer(), a.answer()
		got := a.answer()
		scribble(got.terms, 99)
		if !reflect.DeepEqual(a.deep(), ahead) {
			t.Errorf("what was given has changed: %+v, was %+v", a, ahead)
		}
		if !kept.same(want) || !a.answer().same(want) {
			t.Errorf("%+v: has become %+v, was %+v", a, kept, want)
		}
	}
}

// P4: what was handed in may be changed later.
func TestInputIsNotKept(t *testing.T) {
	for _, a := range samples(t) {
		want, b := a.answer(), a.spacious()
		got := b.answer()
		scribble(b.in, 99)
		scribble(b.out, 99)
		scribble(b.c.Put, 99)
		scribble(b.c.Leave, 99)
		for i := range b.g.Prods {
			scribble(b.g.Prods[i].Right, 99)
		}
		scribble(b.g.Prods, api.Prod{Left: 99})
		if !got.same(want) {
			t.Errorf("has become %+v, was %+v", got, want)
		}
	}
}

// P2: the same is answered each time.
func TestSameEachTime(t *testing.T) {
	d := &dice{seed: 9}
	for range 500 {
		g := d.grammar()
		a := asked{g, d.costs(g.Terms, 2), d.list(g.Terms, 8), d.list(g.Terms, 8)}
		want := a.answer()
		for range 5 {
			if got := a.answer(); !got.same(want) {
				t.Fatalf("%+v: %+v, was %+v", a, got, want)
			}
		}
	}
}

// P3: a nil list and an empty one are one thing.
func TestNilAndEmpty(t *testing.T) {
	for _, a := range samples(t) {
		full := a.spacious()
		full.g.Levels, full.g.Sides = append([]int{}, a.g.Levels...), append([]int{}, a.g.Sides...)
		full.g.Prods = append([]api.Prod{}, a.g.Prods...)
		for i, p := range full.g.Prods {
			full.g.Prods[i].Right = append([]int{}, p.Right...)
		}
		a.in, full.in = nil, []int{}
		a.out, full.out = nil, []int{}
		if got, want := full.answer(), a.answer(); !got.same(want) {
			t.Errorf("%+v: %+v, want %+v", a, got, want)
		}
	}
	bare := asked{g: api.Grammar{Names: 1, Prods: []api.Prod{{}}}}
	full := asked{api.Grammar{Names: 1, Prods: []api.Prod{{Right: []int{}}}, Levels: []int{}, Sides: []int{}}, api.Costs{Put: []int{}, Leave: []int{}}, []int{}, []int{}}
	if got, want := full.answer(), bare.answer(); !got.same(want) || got.err != nil {
		t.Errorf("no terminals: %+v, want %+v", got, want)
	}
}

// P1: no call panics, whatever it is given, and what is answered fits together.
func TestNothingPanics(t *testing.T) {
	d := &dice{seed: 10}
	odd := []int{0, 0, 0, 1, 1, 1, 2, 2, 3, -1, -2, -3, api.MaxCost, api.MaxSyms, api.MaxSyms + 1, 1 << 40, math.MinInt, math.MaxInt}
	one := func() int { return odd[d.next(len(odd))] }
	list := func(most int) []int {
		var out []int
		for range d.next(most) {
			out = append(out, one())
		}
		return out
	}
	seen := map[error]int{}
	for range 20000 {
		g := d.grammar()
		a := asked{g, d.costs(g.Terms, 1+d.next(api.MaxCost)), d.list(g.Terms, 6), d.list(g.Terms, 6)}
		for range d.next(3) {
			switch d.next(11) {
			case 0:
				a.g.Terms = one()
			case 1:
				a.g.Names = one()
			case 2:
				a.g.Start = one()
			case 3:
				a.g.Levels = list(4)
			case 4:
				a.g.Sides = list(4)
			case 5:
				a.g.Prods = append(a.g.Prods, api.Prod{Left: one(), Right: list(4), Level: one()})
			case 6:
				a.g.Prods = nil
			case 7:
				a.c.Put = list(5)
			case 8:
				a.c.Leave = list(5)
			case 9:
				a.in = list(5)
			case 10:
				a.out = list(5)
			}
		}
		seen[checkTogether(t, a)]++
	}
	for _, err := range []error{nil, api.ErrSyntax, api.ErrRule} {
		if seen[err] < 2000 {
			t.Errorf("%v: only %d", err, seen[err])
		}
	}
	checkError(t, "nothing at all", api.Grammar{}, api.Costs{}, nil, api.ErrSyntax)
}

// checkTogether gives the error of Mend.
func checkTogether(t *testing.T, a asked) error {
	t.Helper()
	got := a.answer()
	switch {
	case got.err != nil && (len(got.terms) != 0 || got.cost != 0):
		t.Fatalf("%+v: with an error: %+v", a, got)
	case got.err == nil && (!grammar.Ok(a.g) || repair.Cost(a.c, a.in, got.terms) != got.cost):
		t.Fatalf("%+v: %+v", a, got)
	case got.turn < -1:
		t.Fatalf("%+v: %+v", a, got)
	}
	return got.err
}
