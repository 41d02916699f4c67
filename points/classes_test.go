package points_test

import (
	"math"
	"slices"
	"testing"

	"grammarsmith/api"
	"grammarsmith/points"
)

func sameClasses(a, b []set) bool {
	return slices.EqualFunc(a, b, func(x, y set) bool { return slices.Equal(x, y) })
}

// P13: ordinary sets and the edges, by their answers.
func TestClasses(t *testing.T) {
	const last = api.MaxPoint
	for _, c := range []struct {
		name string
		sets []set
		want []set
	}{
		{"no sets", nil, []set{whole}},
		{"no sets, an empty list", []set{}, []set{whole}},
		{"empty sets", []set{nil, {}, span(4, 3), span(-9, -1), span(last+1, last+9)}, []set{whole}},
		{"all", []set{whole, span(math.MinInt, math.MaxInt)}, []set{whole}},
		{"one set", []set{span(97, 122)}, []set{{{Lo: 0, Hi: 96}, {Lo: 123, Hi: last}}, span(97, 122)}},
		{"from 0 on", []set{span(-4, 9)}, []set{span(0, 9), span(10, last)}},
		{"up to the last", []set{span(10, last+4)}, []set{span(0, 9), span(10, last)}},
		{"the last alone", []set{span(last, last)}, []set{span(0, last-1), span(last, last)}},
		{"the same set twice, written in two ways", []set{{{Lo: 5, Hi: 9}, {Lo: 0, Hi: 4}}, {{Lo: 0, Hi: 7}, {Lo: 3, Hi: 9}}}, []set{span(0, 9), span(10, last)}},
		{"a set and what is not in it", []set{span(0, 9), span(10, last)}, []set{span(0, 9), span(10, last)}},
		{"overlapping", []set{span(5, 14), span(10, 19)}, []set{{{Lo: 0, Hi: 4}, {Lo: 20, Hi: last}}, span(5, 9), span(10, 14), span(15, 19)}},
		{"apart, three of a kind", []set{{{Lo: 40, Hi: 41}, {Lo: 10, Hi: 11}, {Lo: 20, Hi: 21}}, span(20, 21)}, []set{
			{{Lo: 0, Hi: 9}, {Lo: 12, Hi: 19}, {Lo: 22, Hi: 39}, {Lo: 42, Hi: last}},
			{{Lo: 10, Hi: 11}, {Lo: 40, Hi: 41}},
			span(20, 21),
		}},
		{"one ends where another begins", []set{span(5, 9), span(10, 14)}, []set{{{Lo: 0, Hi: 4}, {Lo: 15, Hi: last}}, span(5, 9), span(10, 14)}},
	} {
		if got := points.Classes(c.sets); !sameClasses(got, c.want) {
			t.Errorf("%s: %v, want %v", c.name, got, c.want)
		}
	}
}

// P13: each point in just one class, two points in one class just if they lie in the same sets, the class of the least point first.
func TestClassesOfManySets(t *testing.T) {
	checkClasses(t, odd())
	for i, a := range odd() {
		checkClasses(t, []set{a})
		checkClasses(t, append(mixed(i), a))
	}
	all := mixed(400)
	for n := 1; n <= 9; n++ {
		for i := 0; i+n <= len(all); i += n {
			checkClasses(t, all[i:i+n])
		}
	}
}

func checkClasses(t *testing.T, sets []set) {
	t.Helper()
	classes := points.Classes(sets)
	size := 0
	for i, c := range classes {
		checkCanonical(t, "Classes", c)
		size += points.Size(c)
		if len(c) == 0 || i > 0 && c[0].Lo <= classes[i-1][0].Lo {
			t.Fatalf("Classes(%v) = %v: class %d is empty or too late", sets, classes, i)
		}
	}
	if size != api.MaxPoint+1 {
		t.Fatalf("Classes(%v) = %v: %d points", sets, classes, size)
	}
	checkProbes(t, sets, classes)
}

// checkProbes looks at one point of each stretch at least: so each class is met.
func checkProbes(t *testing.T, sets, classes []set) {
	t.Helper()
	classOf := map[string]int{}
	met := map[int]string{}
	for _, p := range probes(sets...) {
		if p < 0 || p > api.MaxPoint {
			continue
		}
		in := make([]byte, len(sets))
		for i, a := range sets {
			if lies(a, p) {
				in[i] = 1
			}
		}
		c := slices.IndexFunc(classes, func(a set) bool { return lies(a, p) })
		if old, known := classOf[string(in)]; known && old != c {
			t.Fatalf("Classes(%v) = %v: %d stands in class %d, one like it in %d", sets, classes, p, c, old)
		}
		if old, known := met[c]; known && old != string(in) {
			t.Fatalf("Classes(%v) = %v: %d stands in class %d with one that is not like it", sets, classes, p, c)
		}
		classOf[string(in)], met[c] = c, string(in)
	}
	if len(met) != len(classes) {
		t.Fatalf("Classes(%v) = %v: %d classes are met", sets, classes, len(met))
	}
}

// Many sets with many ranges are gone through at once, not set by set for each point.
func TestClassesOfALot(t *testing.T) {
	const count = 20000
	var sets []set
	for i := range count {
		sets = append(sets, set{{Lo: i, Hi: 3*count - i}})
	}
	if got := len(points.Classes(sets)); got != count+1 {
		t.Errorf("%d classes, want %d", got, count+1)
	}
}

// P4: what is handed in stays, no two classes share memory, and writing into an answer changes no other.
func TestClassesShareNothing(t *testing.T) {
	for _, sets := range [][]set{nil, {nil}, {whole}, odd(), mixed(9)} {
		var given, kept []set
		for _, a := range sets {
			room := withRoom(a)
			given, kept = append(given, room[:len(a)]), append(kept, slices.Clone(room))
		}
		got := points.Classes(given)
		var want []set
		for _, c := range got {
			want = append(want, slices.Clone(c))
		}
		for i, c := range got {
			if !slices.Equal(c, want[i]) {
				t.Fatalf("class %d shares memory with one ahead of it", i)
			}
			scribble(c)
		}
		for i, a := range given {
			if !slices.Equal(a[:len(a)+2], kept[i]) {
				t.Errorf("set %d has changed", i)
			}
		}
		if again := points.Classes(given); !sameClasses(again, want) {
			t.Errorf("Classes of %v: %v, then %v", sets, want, again)
		}
	}
}
