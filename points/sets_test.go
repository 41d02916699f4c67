package points_test

import (
	"math"
	"slices"
	"testing"

	"grammarsmith/api"
	"grammarsmith/points"
)

type set = []api.Range

var whole = set{{Lo: 0, Hi: api.MaxPoint}}

// span is a set of one range.
func span(lo, hi int) set { return set{{Lo: lo, Hi: hi}} }

// lies says by the words of the document, not by the program, whether a point lies in a set.
func lies(a set, p int) bool {
	return p >= 0 && p <= api.MaxPoint && slices.ContainsFunc(a, func(r api.Range) bool { return r.Lo <= p && p <= r.Hi })
}

// probes are the points around each end of the sets' ranges: between them nothing changes.
func probes(sets ...set) []int {
	out := []int{-1, 0, 1, api.MaxPoint - 1, api.MaxPoint, api.MaxPoint + 1}
	for _, a := range sets {
		for _, r := range a {
			for _, end := range []int{r.Lo, r.Hi} {
				for d := -2; d <= 2; d++ {
					if p := end + d; p >= -2 && p <= api.MaxPoint+2 {
						out = append(out, p)
					}
				}
			}
		}
	}
	slices.Sort(out)
	return slices.Compact(out)
}

func checkCanonical(t *testing.T, what string, a set) {
	t.Helper()
	for i, r := range a {
		if r.Lo > r.Hi || r.Lo < 0 || r.Hi > api.MaxPoint {
			t.Errorf("%s: range %d of %v is none", what, i, a)
		}
		if i > 0 && r.Lo < a[i-1].Hi+2 {
			t.Errorf("%s: range %d of %v has no point ahead of it", what, i, a)
		}
	}
}

// odd are sets as they may be handed in: the edges that the document names.
func odd() []set {
	return []set{
		nil,
		{},
		span(5, 4),
		span(math.MaxInt, math.MinInt),
		span(math.MinInt, math.MaxInt),
		span(-9, -1),
		span(-9, 0),
		span(api.MaxPoint, api.MaxPoint+9),
		span(api.MaxPoint+1, api.MaxPoint+9),
		span(api.MaxPoint+9, api.MaxPoint+1),
		span(-1, -9),
		span(0, 0),
		span(api.MaxPoint, api.MaxPoint),
		whole,
		span(1, api.MaxPoint-1),
		{{Lo: 5, Hi: 9}, {Lo: 0, Hi: 4}},
		{{Lo: 0, Hi: 4}, {Lo: 6, Hi: 9}},
		{{Lo: 0, Hi: 6}, {Lo: 4, Hi: 9}},
		{{Lo: 0, Hi: 20}, {Lo: 4, Hi: 9}, {Lo: 4, Hi: 9}, {Lo: 12, Hi: 3}},
		{{Lo: 30, Hi: 31}, {Lo: 20, Hi: 21}, {Lo: 10, Hi: 11}, {Lo: 32, Hi: 32}},
		{{Lo: 0xD800, Hi: 0xDFFF}, {Lo: math.MinInt, Hi: 3}, {Lo: 0x10000, Hi: math.MaxInt}},
	}
}

// mixed are sets of many short ranges, by a rule that gives the same ones each time.
func mixed(count int) []set {
	var out []set
	seed := uint32(1)
	next := func(n int) int {
		seed = seed*1664525 + 1013904223
		return int(seed>>8) % n
	}
	for range count {
		var a set
		for range next(7) {
			lo := next(40) - 5
			if next(3) == 0 {
				lo += api.MaxPoint - 20
			}
			a = append(a, api.Range{Lo: lo, Hi: lo + next(12) - 2})
		}
		out = append(out, a)
	}
	return out
}

// P11: ordinary sets, and each edge by its own answer.
func TestCanon(t *testing.T) {
	for _, c := range []struct {
		name    string
		a, want set
	}{
		{"nil", nil, nil},
		{"one point", span(7, 7), span(7, 7)},
		{"Lo above Hi", span(8, 7), nil},
		{"touching", set{{Lo: 0, Hi: 4}, {Lo: 5, Hi: 9}}, span(0, 9)},
		{"touching, out of order", set{{Lo: 5, Hi: 9}, {Lo: 0, Hi: 4}}, span(0, 9)},
		{"one point between", set{{Lo: 0, Hi: 4}, {Lo: 6, Hi: 9}}, set{{Lo: 0, Hi: 4}, {Lo: 6, Hi: 9}}},
		{"overlapping", set{{Lo: 3, Hi: 9}, {Lo: 1, Hi: 5}}, span(1, 9)},
		{"one in another", set{{Lo: 1, Hi: 20}, {Lo: 5, Hi: 6}, {Lo: 19, Hi: 20}}, span(1, 20)},
		{"the same twice", set{{Lo: 1, Hi: 2}, {Lo: 1, Hi: 2}}, span(1, 2)},
		{"below 0", span(-5, -1), nil},
		{"partly below 0", span(-5, 2), span(0, 2)},
		{"above MaxPoint", span(api.MaxPoint+1, api.MaxPoint+5), nil},
		{"partly above MaxPoint", span(api.MaxPoint-1, api.MaxPoint+5), span(api.MaxPoint-1, api.MaxPoint)},
		{"all numbers", span(math.MinInt, math.MaxInt), whole},
		{"the greatest number ahead of the least", span(math.MaxInt, math.MinInt), nil},
		{"halves of pairs are points", span(0xD800, 0xDFFF), span(0xD800, 0xDFFF)},
		{"touching below 0", set{{Lo: -5, Hi: -1}, {Lo: 0, Hi: 3}}, span(0, 3)},
	} {
		if got := points.Canon(c.a); !slices.Equal(got, c.want) {
			t.Errorf("%s: Canon(%v) = %v, want %v", c.name, c.a, got, c.want)
		}
	}
}

func TestCanonOfManySets(t *testing.T) {
	for _, a := range append(odd(), mixed(300)...) {
		got := points.Canon(a)
		checkCanonical(t, "Canon", got)
		for _, p := range probes(a) {
			if lies(got, p) != lies(a, p) {
				t.Fatalf("Canon(%v) = %v: wrong at %d", a, got, p)
			}
		}
		if again := points.Canon(got); !slices.Equal(again, got) {
			t.Errorf("Canon of %v is %v", got, again)
		}
	}
}

// P12: ordinary sets.
func TestOperations(t *testing.T) {
	a := set{{Lo: 10, Hi: 19}, {Lo: 30, Hi: 39}}
	b := set{{Lo: 15, Hi: 34}}
	for _, c := range []struct {
		name      string
		got, want set
	}{
		{"Join", points.Join(a, b), span(10, 39)},
		{"Join of touching ones", points.Join(span(0, 4), span(5, 9)), span(0, 9)},
		{"Join of none", points.Join(nil, nil), nil},
		{"Meet", points.Meet(a, b), set{{Lo: 15, Hi: 19}, {Lo: 30, Hi: 34}}},
		{"Meet of touching ones", points.Meet(span(0, 4), span(5, 9)), nil},
		{"Meet with none", points.Meet(whole, nil), nil},
		{"Less", points.Less(a, b), set{{Lo: 10, Hi: 14}, {Lo: 35, Hi: 39}}},
		{"Less, the other way", points.Less(b, a), span(20, 29)},
		{"Less itself", points.Less(a, a), nil},
		{"Less none", points.Less(a, nil), a},
		{"Other", points.Other(a), set{{Lo: 0, Hi: 9}, {Lo: 20, Hi: 29}, {Lo: 40, Hi: api.MaxPoint}}},
		{"Other of none", points.Other(nil), whole},
		{"Other of all", points.Other(whole), nil},
		{"Other of what lies outside", points.Other(set{{Lo: -3, Hi: -1}, {Lo: api.MaxPoint + 1, Hi: math.MaxInt}}), whole},
	} {
		if !slices.Equal(c.got, c.want) {
			t.Errorf("%s: %v, want %v", c.name, c.got, c.want)
		}
	}
}

func TestOperationsOnManySets(t *testing.T) {
	sets := append(odd(), mixed(40)...)
	for _, a := range sets {
		for _, b := range sets {
			checkOperations(t, a, b)
		}
	}
}

func checkOperations(t *testing.T, a, b set) {
	t.Helper()
	for _, c := range []struct {
		name   string
		got    set
		wanted func(inA, inB bool) bool
	}{
		{"Join", points.Join(a, b), func(inA, inB bool) bool { return inA || inB }},
		{"Meet", points.Meet(a, b), func(inA, inB bool) bool { return inA && inB }},
		{"Less", points.Less(a, b), func(inA, inB bool) bool { return inA && !inB }},
		{"Other", points.Other(a), func(inA, _ bool) bool { return !inA }},
	} {
		checkCanonical(t, c.name, c.got)
		for _, p := range probes(a, b) {
			want := p >= 0 && p <= api.MaxPoint && c.wanted(lies(a, p), lies(b, p))
			if lies(c.got, p) != want {
				t.Fatalf("%s of %v and %v: %v: wrong at %d", c.name, a, b, c.got, p)
			}
		}
	}
}

// P12: a number that is no point lies in no set, whatever its ranges say.
func TestHas(t *testing.T) {
	for _, a := range append(odd(), mixed(100)...) {
		for _, p := range append(probes(a), math.MinInt, math.MaxInt, 15) {
			if got := points.Has(a, p); got != lies(a, p) {
				t.Errorf("Has(%v, %d) = %v", a, p, got)
			}
		}
	}
}

// P12: each point counts once.
func TestSize(t *testing.T) {
	for _, c := range []struct {
		a    set
		want int
	}{
		{nil, 0},
		{span(3, 2), 0},
		{span(3, 3), 1},
		{span(-5, 5), 6},
		{span(-5, -1), 0},
		{span(api.MaxPoint, math.MaxInt), 1},
		{set{{Lo: 0, Hi: 9}, {Lo: 5, Hi: 14}, {Lo: 5, Hi: 5}}, 15},
		{set{{Lo: 20, Hi: 29}, {Lo: 0, Hi: 9}}, 20},
		{span(0xD800, 0xDFFF), 0x800},
		{span(math.MinInt, math.MaxInt), api.MaxPoint + 1},
	} {
		if got := points.Size(c.a); got != c.want {
			t.Errorf("Size(%v) = %d, want %d", c.a, got, c.want)
		}
	}
}

// P4: what is handed in stays, also behind the end of a list; what is answered shares no memory with it.
func TestOperationsShareNothing(t *testing.T) {
	for _, c := range []struct {
		name string
		call func(a, b set) set
	}{
		{"Canon", func(a, _ set) set { return points.Canon(a) }},
		{"Join", points.Join},
		{"Meet", points.Meet},
		{"Less", points.Less},
		{"Other", func(a, _ set) set { return points.Other(a) }},
		{"Has", func(a, _ set) set { points.Has(a, 3); return nil }},
		{"Size", func(a, _ set) set { points.Size(a); return nil }},
	} {
		for _, a := range append(odd(), mixed(20)...) {
			checkShares(t, c.name, c.call, a, nil)
			checkShares(t, c.name, c.call, a, whole)
			checkShares(t, c.name, c.call, a, a)
		}
	}
}

func checkShares(t *testing.T, name string, call func(a, b set) set, a, b set) {
	t.Helper()
	roomA, roomB := withRoom(a), withRoom(b)
	keptA, keptB := slices.Clone(roomA), slices.Clone(roomB)
	got := call(roomA[:len(a)], roomB[:len(b)])
	want := slices.Clone(got)
	scribble(got)
	if !slices.Equal(roomA, keptA) || !slices.Equal(roomB, keptB) {
		t.Errorf("%s of %v and %v: what was handed in has changed", name, a, b)
	}
	if again := call(roomA[:len(a)], roomB[:len(b)]); !slices.Equal(again, want) {
		t.Errorf("%s of %v and %v: %v, then %v", name, a, b, want, again)
	}
}

// withRoom is a set with room behind it, which is not to be written into.
func withRoom(a set) set {
	return append(slices.Clone(a), api.Range{Lo: 77, Hi: 78}, api.Range{Lo: 79, Hi: 80})
}

// scribble writes into a list and into the room behind it.
func scribble(a set) {
	a = a[:cap(a)]
	for i := range a {
		a[i] = api.Range{Lo: -777, Hi: -777}
	}
}
