package repair_test

import (
	"testing"

	"grammarsmith/api"
)

// P91: nearest sentences by hand. All costs are 1.
func TestMend(t *testing.T) {
	for _, x := range []struct {
		prods, in, want string
		cost            int
	}{
		{"SaSb S", "", "", 0}, // sentences as they are
		{"SaSb S", "ab", "ab", 0},
		{"SaSb S", "aaabbb", "aaabbb", 0},
		{"SSaS Sb", "babab", "babab", 0},
		{"SaSb S", "aab", "ab", 1}, // one is left out
		{"SaSb S", "abb", "ab", 1},
		{"SaSb S", "aba", "ab", 1},
		{"SaSb S", "a", "", 1},
		{"Sabc", "abbc", "abc", 1},
		{"Sabc", "cabc", "abc", 1},
		{"Sabc", "abca", "abc", 1},
		{"Sabc", "ac", "abc", 1}, // one is put in
		{"Sabc", "bc", "abc", 1},
		{"Sabc", "ab", "abc", 1},
		{"SSaS Sb", "", "b", 1},
		{"SSaS Sb", "bba", "b", 2},
		{"SSaS Sb", "bbab", "bab", 1},
		{"Sabc", "cba", "abc", 4}, // several are put in, several are left out
		{"Sabc", "bcab", "abc", 3},
		{"Sabc", "cacacbab", "abc", 7},
		{"SaSb S", "ba", "", 2},
		{"SaSb S", "baab", "ab", 2},
		{"SaSbS S", "ba", "", 2},
		{"SaSbS S", "abba", "ab", 2},
		{"SaSbS S", "aababbba", "aaabbb", 2},
		{"Sabcabc", "", "abcabc", 6}, // longer than what is given
		{"Sabcabc", "b", "abcabc", 5},
		{"Sabcabc", "cc", "abcabc", 4},
		{"SaaaaaS Saaaaa", "a", "aaaaa", 4},
		{"SaaaaaS Saaaaa", "aaaaaaa", "aaaaa", 2},
		{"SaaaaaS Saaaaa", "aaaaaaaa", "aaaaaaaaaa", 2},
		{"SABCd A Aa B Bb C Cc", "", "d", 1}, // through names that have the empty sentence
		{"SABCd A Aa B Bb C Cc", "b", "bd", 1},
		{"SABCd A Aa B Bb C Cc", "cd", "cd", 0},
		{"SABCd A Aa B Bb C Cc", "cbad", "ad", 2},
		{"SABCd A Aa B Bb C Cc", "acbd", "abd", 1},
		{"SAA A", "", "", 0},
		{"SAAa A", "", "a", 1},
		{"SAAa A Ab", "bbb", "bba", 2},
		{"Sa SbA AbA", "bb", "a", 3}, // names that have no tree
		{"Sa SbA AbA", "bab", "a", 2},
		{"SaA Sbb Ab AcC", "ac", "ab", 2},
		{"Sab Sc Ac BA", "c", "c", 0},
		{"Sab AcA Ac", "c", "ab", 3},
		{"S", "", "", 0}, // no other sentence
		{"SA A", "", "", 0},
		{"SS Sb Sa", "", "a", 1}, // names within themselves with the same sentence
		{"SS Sb Sa", "ab", "a", 1},
		{"SA AS Sb Aa", "", "a", 1},
		{"SA AS Sb Aa", "b", "b", 0},
		{"SA AB BS Sdd Ac Bc", "d", "dd", 1},
		{"SAS S A Aa", "aa", "aa", 0},
		{"SAS Sb A Aa", "aa", "aab", 1},
		{"SASA Sb A Aa", "aa", "aab", 1},
		{"SSS Sab", "ba", "ab", 2},
		{"SSS Sab S", "aabb", "ab", 2},
		{"SSS Sab Sba", "aabb", "ab", 2},
		{"SSS Sab Sba", "abbab", "abab", 1},
		{"SSS Sab Sba", "aab", "ab", 1},
	} {
		g := of(t, x.prods)
		checkMend(t, x.prods+" "+x.in, g, ones(g.Terms), terms(x.in), terms(x.want), x.cost)
	}
}

// P91: of sentences that cost as much those with the fewest terminals, and of these the first in order.
func TestMendOrder(t *testing.T) {
	for _, x := range []struct {
		prods, in, want string
		cost            int
	}{
		{"Sa Sabb", "ab", "a", 1}, // fewer terminals
		{"Sabb Sa", "ab", "a", 1},
		{"Sb Saab", "ab", "b", 1}, // also if it is not the first in order
		{"Saab Sb", "ab", "b", 1},
		{"Sc Sab Sba", "a", "ab", 1}, // fewer terminals do not help, where they cost more
		{"Sccc Saabbcc Scab", "abc", "cab", 2},
		{"Sba Sab", "", "ab", 2}, // the first in order
		{"Sba Sab", "a", "ab", 1},
		{"Sba Sab", "b", "ab", 1},
		{"Sab Sba", "b", "ab", 1},
		{"Sca Sbc", "c", "bc", 1},
		{"Sabd Sabc", "ab", "abc", 1}, // the last one tells
		{"Sabc Sabd", "ab", "abc", 1},
		{"SAA Ab Aa", "", "aa", 2}, // by parts
		{"SAA Ab Aa", "b", "ab", 1},
		{"SAAA Ab Aa", "b", "aab", 2},
		{"SAAA Ab Aa", "bb", "abb", 1},
		{"SAB Ab Aaa Bb Bba", "b", "bb", 1},
		{"SAB SBA Ac Ba", "b", "ac", 3}, // by productions
		{"SaA SBc Acc Bab", "", "abc", 3},
		{"SaA SBc Abc Bab", "ac", "abc", 1}, // one sentence, by two trees
		{"SAB Aa Aab Bbb Bb", "ab", "ab", 0},
		{"SAB Aa Aab Bbc Bc", "ac", "ac", 0},
		{"SAB Aa Aac Bcb Bb", "ac", "acb", 1}, // "ab" would cost 2
		{"SAAB Bb A Aa Ac", "cacb", "acb", 1}, // "cab" and "ccb" cost as much
		{"SA SB SC Ac AB Bb BC Ca CA", "", "a", 1},
		{"SA SB SC Ac AB Bb BC Ca CA", "d", "a", 2},
		{"SSS Sb Sa", "ccc", "a", 4},
		{"Sab Sbc Sca", "acb", "ab", 1},
		{"Sbc Sca Sab", "bac", "bc", 1},
		{"Sbca Scab Sbac", "", "bac", 3},
	} {
		g := of(t, x.prods)
		g.Terms = 4
		checkMend(t, x.prods+" "+x.in, g, ones(g.Terms), terms(x.in), terms(x.want), x.cost)
	}
}

// P91: the order is that of numbers, as many as there may be.
func TestMendOrderOfNumbers(t *testing.T) {
	for _, x := range [][2]int{{0, 1}, {2, 10}, {9, 10}, {99, 100}, {2, 257}, {255, 256}, {128, 255}, {127, 128}, {10, 266}, {298, 299}, {0, 299}} {
		for _, prods := range [][]api.Prod{{{Right: row(x[0], 1)}, {Right: row(x[1], 1)}}, {{Right: row(x[1], 1)}, {Right: row(x[0], 1)}}} {
			g := api.Grammar{Terms: api.MaxSyms, Names: 1, Prods: prods}
			c := ones(g.Terms)
			checkMend(t, "the lesser one", g, c, nil, []int{x[0]}, 1)
			checkMend(t, "as given", g, c, []int{x[1]}, []int{x[1]}, 0)
			checkMend(t, "as given", g, c, []int{x[0]}, []int{x[0]}, 0)
			checkMend(t, "one left out", g, c, []int{x[1], x[0]}, []int{x[0]}, 1)
			checkMend(t, "one left out", g, c, []int{x[0], x[1]}, []int{x[0]}, 1)
		}
	}
}

// P91: costs choose. Those of a, b, c, d to put in and to leave out follow one another.
func TestMendCosts(t *testing.T) {
	for _, x := range []struct {
		prods      string
		put, leave []int
		in, want   string
		cost       int
	}{
		{"SaSb S", []int{1, 1}, []int{5, 1}, "aab", "aabb", 1}, // put in, since to leave out is dearer
		{"SaSb S", []int{1, 2}, []int{2, 1}, "aab", "ab", 2},   // as dear: the shorter one
		{"SaSb S", []int{1, 3}, []int{2, 1}, "aab", "ab", 2},
		{"SaSb S", []int{1, 1}, []int{2, 1}, "aab", "aabb", 1},
		{"SaSb S", []int{9, 9}, []int{1, 1}, "aaaa", "", 4},
		{"SaSb S", []int{9, 1}, []int{3, 1}, "aaaa", "aaaabbbb", 4},
		{"Sb Sa", []int{3, 2}, []int{1, 1}, "", "b", 2}, // the cheaper one, not the first in order
		{"Sbbb Sa", []int{1000, 333}, []int{1, 1}, "", "bbb", 999},
		{"Sbbb Sa", []int{999, 333}, []int{1, 1}, "", "a", 999},
		{"Sbbb Sa", []int{1000, 334}, []int{1, 1}, "", "a", 1000},
		{"Sac Sbc", []int{7, 7, 1}, []int{4, 6, 1}, "ab", "bc", 5}, // the dearer one stays
		{"Sac Sbc", []int{7, 7, 1}, []int{6, 4, 1}, "ab", "ac", 5},
		{"SAB Aa Ab Ba Bb", []int{2, 1}, []int{1, 1}, "a", "ab", 1},
		{"SAB Aa Ab Ba Bb", []int{1, 1}, []int{1, 1}, "b", "ab", 1},
		{"SAB Aa Ab Ba Bb", []int{2, 1}, []int{1, 1}, "", "bb", 2},
		{"SAB Aa Ab Ba Bb", []int{2, 1}, []int{9, 9}, "ba", "ba", 0},
		{"SAc SBd A Aa B Bbb", []int{1, 1, 1000, 998}, []int{1, 1, 1, 1}, "", "d", 998},
		{"SAc SBd A Aa B Bbb", []int{1, 1, 1000, 998}, []int{1, 2, 1, 1}, "b", "bbd", 999},
		{"Sabc", []int{1000, 1000, 1000}, []int{1000, 1000, 1000}, "cba", "abc", 4000},
	} {
		checkMend(t, x.prods+" "+x.in, of(t, x.prods), api.Costs{Put: x.put, Leave: x.leave}, terms(x.in), terms(x.want), x.cost)
	}
}

// P91: Start need not be the name 0.
func TestMendOtherStart(t *testing.T) {
	g := of(t, "Sb ASa BAAc")
	for start, x := range []struct {
		want string
		cost int
	}{{"b", 1}, {"ba", 0}, {"babac", 3}} {
		g.Start = start
		checkMend(t, x.want, g, ones(3), terms("ba"), terms(x.want), x.cost)
	}
}

// P91: levels and sides do not matter.
func TestMendLevels(t *testing.T) {
	for _, sides := range [][]int{{api.ToLeft, api.ToRight}, {api.ToNone, api.ToNone}, {api.ToRight, api.ToLeft}} {
		g := of(t, "SSaS SSbS Sc")
		g.Levels, g.Sides = []int{1, 2, 0}, sides
		g.Prods[0].Level, g.Prods[1].Level = 1, 2
		for _, x := range []struct {
			in, want string
			cost     int
		}{{"cacac", "cacac", 0}, {"cbcac", "cbcac", 0}, {"cc", "c", 1}, {"ab", "c", 3}, {"cab", "c", 2}, {"cbac", "cac", 1}} {
			checkMend(t, x.in, g, ones(3), terms(x.in), terms(x.want), x.cost)
		}
	}
}
