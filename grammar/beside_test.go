package grammar_test

import (
	"testing"

	"grammarsmith/api"
	"grammarsmith/grammar"
)

// P52: with what sentences begin.
func TestFirst(t *testing.T) {
	for text, want := range map[string]string{
		"S : a S b |":                         "a",
		"S : b | a":                           "ab",
		"S":                                   "",
		"S : ":                                "",
		"S : S a":                             "",
		"S : S a | b":                         "b",
		"S : S a |":                           "a",
		"S : A B c; A : a | ; B : b |":        "abc,a,b",
		"S : A B c; A : a ; B : b |":          "a,a,b",
		"S : A B; A : | a; B : | b":           "ab,a,b",
		"S : A b; A : A a |":                  "ab,a",
		"S : a T | b; T : T":                  "b,", // a begins no whole tree
		"S : T a | b; T : T":                  "b,",
		"S : A T | c; A : a; T : d T":         "c,a,",
		"S : A B T | c; A : ; B : b; T : d T": "c,,b,",
		"S : a; T : b U; U : c |":             "a,b,c", // of each name, also of those that Start does not reach
		"S : A; A : B; B : C; C : D; D : d | S a": "d,d,d,d,d",
		"S : A S | z; A : | B; B : y":             "yz,y,y",
	} {
		g := of(t, text)
		if got := grammar.First(g); !sameSets(got, sets(want, g.Terms)) {
			t.Errorf("First of %q: %v, want %s", text, got, want)
		}
	}
}

// P52: what stands behind nodes in trees of Start; a blank is the end.
func TestFollow(t *testing.T) {
	for text, want := range map[string]string{
		"S : a S b |":                           "b ",
		"S : a":                                 " ",
		"S : ":                                  " ",
		"S":                                     "",
		"S : S":                                 "",
		"S : S a":                               "",
		"S : S a | b":                           "a ",
		"S : S S | a":                           "a ",
		"S : A b; A : a":                        " ,b",
		"S : A B c; A : a; B : b |":             " ,bc,c",
		"S : A B; A : a; B : b |":               " ,b , ",
		"S : A B C; A : a; B : b | ; C : c |":   " ,bc ,c , ",
		"S : A b | a B; A : B; B : c":           " ,b,b ",
		"S : a A b | A c; A : S | d":            "bc ,bc",
		"S : A T | b; A : a; T : T":             " ,,",
		"S : A | a; A : A b":                    " ,",
		"S : a; T : U b; U : T c | d":           " ,,", // Start does not reach them
		"S : a S b T | S c | d; T : T":          "c ,", // the first one has no tree
		"S : A T d | A B c; A : a; B : ; T : T": " ,c,,c",
		"S : A B | c; A : a; B : A b T | b; T":  " ,b, ,",
		"S : A A; A : a |":                      " ,a ",
		"S : A B; A : a; B : C; C : | c":        " ,c , , ",
	} {
		g := of(t, text)
		if got := grammar.Follow(g); !sameSets(got, sets(want, g.Terms)) {
			t.Errorf("Follow of %q: %v, want %q", text, got, want)
		}
	}
}

// P52: what has no tree has nothing behind it, also where all but Start have one.
func TestFollowWithoutTrees(t *testing.T) {
	g := of(t, "S : A S; A : a B; B : b")
	if got := grammar.Follow(g); !sameSets(got, sets(",,", g.Terms)) {
		t.Errorf("%v", got)
	}
	if got := grammar.First(g); !sameSets(got, sets(",a,b", g.Terms)) {
		t.Errorf("First: %v", got)
	}
	g.Start = 1
	if got := grammar.Follow(g); !sameSets(got, sets(", , ", g.Terms)) {
		t.Errorf("start A: %v", got)
	}
}

// P52: Terms is the end, whatever it is, and the last terminals are told.
func TestManyTerminals(t *testing.T) {
	for _, n := range []int{0, 1, 63, 64, 65, 128, api.MaxSyms} {
		g := api.Grammar{Terms: n, Names: 2, Prods: []api.Prod{{Left: 0, Right: []int{-2, -2}}, {Left: 1}}}
		all := []int{}
		for i := range n {
			g.Prods = append(g.Prods, api.Prod{Left: 1, Right: []int{n - 1 - i}})
			all = append(all, i)
		}
		if got := grammar.First(g); !sameSets(got, [][]int{all, all}) {
			t.Errorf("First of %d: %v", n, got)
		}
		if got := grammar.Follow(g); !sameSets(got, [][]int{{n}, append(all, n)}) {
			t.Errorf("Follow of %d: %v", n, got)
		}
	}
}
