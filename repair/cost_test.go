package repair_test

import (
	"math"
	"slices"
	"testing"

	"grammarsmith/api"
	"grammarsmith/repair"
)

// P90: costs by hand. To put in a, b, c costs 2, 3, 7; to leave them out 10, 20, 40.
func TestCost(t *testing.T) {
	c := api.Costs{Put: []int{2, 3, 7}, Leave: []int{10, 20, 40}}
	for _, x := range []struct {
		from, to string
		want     int
	}{
		{"", "", 0},
		{"a", "a", 0},
		{"abcab", "abcab", 0},
		{"", "abc", 12}, // all are put in
		{"", "aa", 4},
		{"abc", "", 70}, // all are left out
		{"bb", "", 40},
		{"aa", "bb", 26}, // nothing in common
		{"ab", "cc", 44},
		{"a", "b", 13},
		{"ac", "abc", 3}, // one is put in: in the middle, at the front, at the end
		{"bc", "abc", 2},
		{"ab", "abc", 7},
		{"abc", "ac", 20}, // one is left out
		{"abc", "bc", 10},
		{"abc", "ab", 40},
		{"aab", "ab", 10},
		{"ab", "aab", 2},
		{"ab", "ba", 12}, // b stays: if a did, it would cost 23
		{"ba", "ab", 12},
		{"cab", "abc", 35}, // c stays: with ab it would be 47
		{"abc", "cab", 35},
		{"abab", "baba", 12},
		{"caaa", "aaac", 36},     // one stays where three could: that would be 47
		{"caaaaa", "aaaaac", 47}, // five stay where one could: that would be 60
		{"bbca", "acbb", 58},     // c stays, neither bb (59) nor a (105)
	} {
		if got := repair.Cost(c, terms(x.from), terms(x.to)); got != x.want {
			t.Errorf("%q to %q: %d, want %d", x.from, x.to, got, x.want)
		}
	}
}

// P90: terminals have a cost from 0 to the lesser length less 1.
func TestCostTerminals(t *testing.T) {
	for _, c := range []api.Costs{ones(3), {Put: row(1, 3), Leave: row(1, 5)}, {Put: row(1, 9), Leave: row(1, 3)}} {
		for _, x := range []struct{ term, want int }{{0, 1}, {2, 1}, {3, -1}, {4, -1}, {9, -1}, {-1, -1}, {-3, -1}, {math.MinInt, -1}, {math.MaxInt, -1}, {1 << 32, -1}} {
			for _, other := range [][]int{nil, {0}, {0, 1, 2}} {
				longer := append(slices.Clone(other), x.term)
				if got := repair.Cost(c, other, longer); got != x.want {
					t.Errorf("%+v: %v to %v: %d, want %d", c, other, longer, got, x.want)
				}
				if got := repair.Cost(c, longer, other); got != x.want {
					t.Errorf("%+v: %v to %v: %d, want %d", c, longer, other, got, x.want)
				}
				if got := repair.Cost(c, longer, longer); got != min(x.want, 0) {
					t.Errorf("%+v: %v to itself: %d", c, longer, got)
				}
			}
		}
	}
	for _, c := range []api.Costs{{}, {Put: row(1, 3)}, {Leave: row(1, 3)}} {
		if repair.Cost(c, nil, nil) != 0 || repair.Cost(c, []int{}, nil) != 0 || repair.Cost(c, []int{0}, nil) != -1 || repair.Cost(c, nil, []int{0}) != -1 {
			t.Errorf("no terminals: %+v", c)
		}
	}
}

// P90: each cost is from 1 to MaxCost, also that of a terminal that stands in neither list.
func TestCostBounds(t *testing.T) {
	for _, x := range []struct {
		cost int
		is   bool
	}{{1, true}, {api.MaxCost, true}, {0, false}, {-1, false}, {api.MaxCost + 1, false}, {math.MinInt, false}, {math.MaxInt, false}, {1<<32 + 1, false}} {
		for at := range 4 {
			put, leave := ones(4), ones(4)
			put.Put[at], leave.Leave[at] = x.cost, x.cost
			for name, c := range map[string]api.Costs{"Put": put, "Leave": leave} {
				for _, l := range [][]int{nil, {0}, {0, 1, 0}, {3, 1}} {
					want := -1
					if x.is {
						want = sum(c.Leave, l) + c.Put[2]
					}
					if got := repair.Cost(c, l, []int{2}); got != want {
						t.Errorf("%s %d of %d: %v: %d, want %d", name, x.cost, at, l, got, want)
					}
					if got := repair.Cost(c, l, l); got != min(want, 0) {
						t.Errorf("%s %d of %d: %v to itself: %d", name, x.cost, at, l, got)
					}
				}
			}
		}
		// A cost behind the lesser length is a cost, too.
		long := api.Costs{Put: []int{1, 1, x.cost}, Leave: []int{1}}
		if got := repair.Cost(long, []int{0}, nil); (got == 1) != x.is || (got == -1) == x.is {
			t.Errorf("%+v: %d", long, got)
		}
	}
}

// P90: lists of MaxMended terminals, and of one more.
func TestCostLengths(t *testing.T) {
	c := api.Costs{Put: []int{api.MaxCost, 2}, Leave: []int{3, api.MaxCost}}
	most := row(0, api.MaxMended)
	over := append(slices.Clone(most), 0)
	for _, x := range []struct {
		name     string
		from, to []int
		want     int
	}{
		{"all left out", most, nil, 3 * api.MaxMended},
		{"all put in", nil, most, api.MaxCost * api.MaxMended},
		{"equal", most, most, 0},
		{"all others", most, row(1, api.MaxMended), 5 * api.MaxMended},
		{"all others, dearer", row(1, api.MaxMended), most, 2 * api.MaxCost * api.MaxMended},
		{"the last one", most, append(row(0, api.MaxMended-1), 1), 5},
		{"one more", over, nil, -1},
		{"one more, to", nil, over, -1},
		{"one more, both", over, over, -1},
		{"one more, ahead", over, most, -1},
		{"one more, behind", most, over, -1},
		{"far more", row(0, 50*api.MaxMended), nil, -1},
	} {
		if got := repair.Cost(c, x.from, x.to); got != x.want {
			t.Errorf("%s: %d, want %d", x.name, got, x.want)
		}
	}
	alternate := func(first int) []int {
		var out []int
		for i := range api.MaxMended {
			out = append(out, (first+i)%2)
		}
		return out
	}
	if got := repair.Cost(ones(2), alternate(0), alternate(1)); got != 2 {
		t.Errorf("all but the first and the last: %d", got)
	}
}
