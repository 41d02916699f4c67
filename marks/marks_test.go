package marks_test

import (
	"math"
	"slices"
	"testing"

	"grammarsmith/api"
	"grammarsmith/marks"
)

func TestEachNumber(t *testing.T) {
	var all marks.Set
	var want []int
	for i := range api.MaxSyms + 1 {
		one := marks.Of(i)
		if got := one.List(); !slices.Equal(got, []int{i}) {
			t.Errorf("the set of %d has %v", i, got)
		}
		if all.Has(i) || !all.With(i).Has(i) || all.Has(i) {
			t.Errorf("%d in a set without it, and with it", i)
		}
		all = all.Join(one)
		want = append(want, i)
		if got := all.List(); !slices.Equal(got, want) {
			t.Errorf("up to %d: %v", i, got)
		}
	}
}

func TestSetsAreValues(t *testing.T) {
	a := marks.Of(3).With(200)
	b := a
	if a != b || a != marks.Of(200).With(3).With(3) {
		t.Error("the same numbers, but not the same set")
	}
	b = b.With(64)
	if a == b || a.Has(64) || !b.Has(64) {
		t.Error("a copy is no set of its own")
	}
	if a.Join(b) != b || b.Join(a) != b || a.Join(marks.Set{}) != a {
		t.Error("Join")
	}
	if a.Meet(b) != a || b.Meet(a) != a || a.Meet(marks.Of(200).With(64)) != marks.Of(200) || a.Meet(marks.Of(64)) != (marks.Set{}) {
		t.Error("Meet")
	}
	if got := (marks.Set{}).List(); len(got) != 0 {
		t.Errorf("the empty set has %v", got)
	}
}

func TestOtherNumbers(t *testing.T) {
	for _, i := range []int{-1, api.MaxSyms + 1, 320, 1 << 40, math.MinInt, math.MaxInt} {
		if s := marks.Of(5).With(i); s != marks.Of(5) || s.Has(i) || marks.Of(i) != (marks.Set{}) {
			t.Errorf("%d is in a set", i)
		}
	}
}
