package auto

import (
	"slices"
	"testing"

	"grammarsmith/api"
	"grammarsmith/pattern"
)

// sources are patterns whose nets are gone through in each way.
func sources() []string {
	parts := []string{"a", "[ab]*a", "[ab]{3}", "~(a*)", "(ab|b)*", "[^a]{2,4}", "(a|ba)?", "~(.*aa.*)", "[]", "()", "[ab]*a[ab]{4}", "(a{2})*&(a{3})*"}
	var out []string
	for _, p := range parts {
		for _, q := range parts {
			out = append(out, "("+p+")("+q+")", "("+p+")|("+q+")", "("+p+")&("+q+")", "(("+p+")|("+q+")){1,2}", "(("+p+")("+q+"))*", "~(("+p+")("+q+"))")
		}
	}
	return out
}

func piecesOf(t *testing.T, l ...string) ([]*piece, *alphabet) {
	t.Helper()
	var patterns []*api.Re
	for _, s := range l {
		p, err := pattern.Read(s)
		if err != nil {
			t.Fatalf("Read(%q): %v", s, err)
		}
		patterns = append(patterns, p)
	}
	made, x, fault := makeAll(patterns)
	if fault != nil {
		t.Fatalf("%q: %v", l, fault)
	}
	return made, x
}

func alike(a, b api.Auto) bool {
	return slices.EqualFunc(a.States, b.States, func(x, y api.State) bool {
		return x.Rule == y.Rule && slices.Equal(x.Moves, y.Moves)
	})
}

// checkWays asks each way for the same, without covers and with them.
func checkWays(t *testing.T, name string, n *net, want answer) {
	t.Helper()
	const room = 1 << 40
	for range 2 {
		for i, way := range []func(*net, int) answer{fromFront, fromBack, byTrial} {
			if got := way(n, room); !got.sure || got.small != want.small || !alike(got.auto, want.auto) {
				t.Fatalf("%s: way %d answers %v, want %v", name, i, got, want)
			}
			if got := way(n, -1); got.sure {
				t.Fatalf("%s: way %d answers without looking: %v", name, i, got)
			}
		}
		n.findCovers()
	}
}

// P33: whichever way is gone, the answer is the same.
func TestWaysOfPatterns(t *testing.T) {
	for _, s := range sources() {
		made, x := piecesOf(t, s)
		if made[0].re.Kind == api.RSet {
			continue
		}
		for _, n := range x.netsOf(made[0]) {
			checkWays(t, s, n, answer{sure: true, small: true, auto: made[0].auto})
		}
	}
}

// P33: so it is with just MaxStates states.
func TestWaysOfMaxStates(t *testing.T) {
	made, x := piecesOf(t, "ccc("+manyStates+")")
	if len(made[0].auto.States) != api.MaxStates {
		t.Fatalf("%d states", len(made[0].auto.States))
	}
	for _, n := range x.netsOf(made[0]) {
		checkWays(t, "MaxStates", n, answer{sure: true, small: true, auto: made[0].auto})
	}
}

// manyStates has 497 states.
const manyStates = "[ab]*a[ab]{7}|y[ab]*a[ab]{6}|z[ab]*a[ab]{5}|u[ab]*a[ab]{4}|v[ab]*a[ab]{3}"

// P33: so it is with too many states, also with one too many.
func TestWaysOfTooManyStates(t *testing.T) {
	for _, s := range []string{"cccc(" + manyStates + ")", "[ab]*a[ab]{8}", "[ab]*a[ab]{7}c[ab]*b[ab]{7}", "(a{19})*&(a{27})*", "~(.*a.{5})c~(.*b.{5})"} {
		p, err := pattern.Read(s)
		if err != nil {
			t.Fatal(err)
		}
		x := alphabetOf([]*api.Re{p})
		made := &piece{re: p}
		for _, k := range p.Kids {
			kid, small := x.make(k)
			if !small {
				t.Fatalf("%q: a part is too large", s)
			}
			made.kids = append(made.kids, kid)
		}
		for _, n := range x.netsOf(made) {
			checkWays(t, s, n, tooLarge())
		}
	}
}

// A guess that is wrong is found out, wherever it is.
func TestWrongText(t *testing.T) {
	made, x := piecesOf(t, "[ab]*a[ab]{3}", "(ab|b)+", "~(a*)&.{0,3}")
	for _, p := range made {
		for _, n := range x.netsOf(p) {
			if text, sure := wrongText(n, p.auto, 1<<40); text != nil || !sure {
				t.Errorf("of what is right: %v, %v", text, sure)
			}
			for i := range p.auto.States {
				other := api.Auto{States: slices.Clone(p.auto.States)}
				other.States[i].Rule = -1 - other.States[i].Rule
				if text, sure := wrongText(n, other, 1<<40); text == nil || !sure {
					t.Errorf("state %d is wrong: %v, %v", i, text, sure)
				}
			}
			if text, sure := wrongText(n, api.Auto{}, 1<<40); text == nil || !sure {
				t.Errorf("nothing is wrong: %v, %v", text, sure)
			}
		}
	}
}
