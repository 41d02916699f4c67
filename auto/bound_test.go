package auto_test

import (
	"testing"

	"grammarsmith/api"
	"grammarsmith/auto"
)

// large has 497 states and a weight of 55: what stands behind a letter is told apart from what stands behind the others.
const large = "[ab]*a[ab]{7}|y[ab]*a[ab]{6}|z[ab]*a[ab]{5}|u[ab]*a[ab]{4}|v[ab]*a[ab]{3}"

// P33: MaxStates states may be, and no more.
func TestOfAtMaxStates(t *testing.T) {
	for _, c := range []struct {
		pattern string
		states  int
	}{
		{large, 497}, {"cc(" + large + ")", 499}, {"ccc(" + large + ")", 500}, {"cccc(" + large + ")", 501},
		{"[ab]*a[ab]{7}", 256}, {"[ab]*a[ab]{8}", 512}, {"(a{20})*&(a{24})*", 120}, {"(a{19})*&(a{26})*", 494}, {"(a{19})*&(a{27})*", 513}, {"(a{19})*|(a{26})*", 494}, {"(a{19})*|(a{27})*", 513},
		{"~((a{19})*&(a{26})*)", 495}, {"[^]{20}&~((.{6})*)", 21},
	} {
		a, err := auto.Of(read(t, c.pattern))
		if c.states > api.MaxStates {
			if err != api.ErrBound || a.States != nil {
				t.Errorf("%q: %d states, %v", c.pattern, len(a.States), err)
			}
		} else if err != nil || len(a.States) != c.states {
			t.Errorf("%q: %d states, %v, want %d", c.pattern, len(a.States), err, c.states)
		}
	}
}

// P33: a pattern in it counts too, whatever is made of it; what is no pattern in it does not.
func TestOfParts(t *testing.T) {
	for _, s := range []string{
		"([ab]*a[ab]{8})&[]", "[]([ab]*a[ab]{8})", "~([ab]*a[ab]{8})", "([ab]*a[ab]{8})[ab]*", "[ab]*|[ab]*a[ab]{8}", "([ab]*a[ab]{8})*", "([ab]*a[ab]{8})?&a", "a|b|~(c&([ab]*a[ab]{8}))",
	} {
		if a, err := auto.Of(read(t, s)); err != api.ErrBound || a.States != nil {
			t.Errorf("%q: %d states, %v", s, len(a.States), err)
		}
	}
	for _, c := range []struct {
		pattern string
		states  int
	}{
		{"[ab]*a[ab]{8}[ab]*", 10}, {"[ab]*a[ab]{30}[ab]*", 32}, {"[ab]*[ab]?a?[ab]{30}[ab]*", 31}, {"[ab]*([ab]*a)?([ab]{40})?", 1}, {".{10}a.{10}b.{10}c.*", 34},
		{"(.*a.{7}){4}", 280}, {"(.*a.{7})+", 256}, {".*a.{7}.*b.{7}.*c.{7}.*d.{7}", 280}, {"[ab]*(a[ab]{20}x?|b[ab]{20}y?)[abxy]*", 22}, {"((.{13}[^a][abc]*){1,2})*", 184},
		{"[a-h]*[abef][a-h]{7}|[a-h]*[aceg][a-h]{7}|[a-h]*[abcd][a-h]{7}|[a-h]*[gh][a-h]{7}", 9},
		{"[a-h]*[abef][a-h]{7}&[a-h]*[aceg][a-h]{7}&[a-h]*[abcd][a-h]{7}&[a-h]*h[a-h]{7}", 0},
		{"[a-h]*[abef][a-h]{7}&[a-h]*[aceg][a-h]{7}&[a-h]*[abcd][a-h]{7}&[a-h]{1,5}", 0},
	} {
		if a, err := auto.Of(read(t, c.pattern)); err != nil || len(a.States) != c.states {
			t.Errorf("%q: %d states, %v, want %d", c.pattern, len(a.States), err, c.states)
		}
	}
}

// P33, P1: far too many states are seen soon, wherever they come from.
func TestOfFarTooManyStates(t *testing.T) {
	for _, s := range []string{
		"[ab]*a[ab]{20}", "[ab]*a[ab]{50}", "[ab]*a[ab]{25}c[ab]{25}a[ab]*", ".*a.{10}b.{10}c.{10}.*", "[ab]*(a[ab]{20}x?|b[ab]{20}y?)", "([ab]*a)?([ab]{40})?", "(~(.*a.{6})c){3}",
		"[^a]*.[^a]{9}~([^a]{14}[ac][abc]*)", "[^a]*[ab][abc]{8}~(b*[^a].{14}([ab]|[abc]*))", "[abc]*[^a]c{0,11}~(([^a]{12}[abc]b*){2})", "(~(c?[abc]{14}[ab][^a]*(a?){2,})){1,2}",
		"~(.*a.{6})c~(.*b.{6})&~(.*ab.{6})", "[a-d]*[ab][a-d]{7}c?&[a-d]*[ac][a-d]{7}d?",
	} {
		if a, err := auto.Of(read(t, s)); err != api.ErrBound || a.States != nil {
			t.Errorf("%q: %d states, %v", s, len(a.States), err)
		}
	}
}
