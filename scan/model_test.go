package scan_test

import (
	"errors"
	"slices"
	"testing"

	"grammarsmith/api"
	"grammarsmith/scan"
)

// checkLook holds one Look, and the Next beside it, against the model.
func checkLook(t *testing.T, x *scan.Scanner, m *model, s string, at int, modes []int) {
	t.Helper()
	wantTok, wantModes, wantTo := m.look(s, at, modes)
	tok, behind, to := x.Look(s, at, modes)
	if tok != wantTok || !slices.Equal(behind, wantModes) || to != wantTo {
		t.Fatalf("Look(%q, %d, %v): %+v, %v, %d, want %+v, %v, %d", s, at, modes, tok, behind, to, wantTok, wantModes, wantTo)
	}
	tok, behind = x.Next(s, at, modes)
	if tok != wantTok || !slices.Equal(behind, wantModes) {
		t.Fatalf("Next(%q, %d, %v): %+v, %v, want %+v, %v", s, at, modes, tok, behind, wantTok, wantModes)
	}
}

// P40 to P43: many lists of rules, and many texts.
func TestAgainstTheWords(t *testing.T) {
	d := &dice{seed: 11}
	patterns, names := smallPatterns(t)
	held := [][]int{nil, {}, {0}, {1}, {2, 1}, {0, 2, api.MaxModes - 1}, {-1}, {3}, {0, api.MaxModes}, {99, 0}}
	right, wrong := 0, map[error]int{}
	for range 4000 {
		l := d.rules(t, patterns, names)
		m, want, at := newModel(l)
		x, err := scan.New(l)
		if want != nil {
			var fault *api.Fault
			if !errors.As(err, &fault) || fault.Err != want || fault.At != at || x != nil {
				t.Fatalf("New(%+v): %v, want %v at %d", l, fault, want, at)
			}
			wrong[want]++
			continue
		}
		if err != nil || x == nil {
			t.Fatalf("New(%+v): %v", l, err)
		}
		right++
		for range 4 {
			s := d.text(9)
			for at := -1; at <= len(s)+1; at++ {
				checkLook(t, x, m, s, at, one(d, held))
			}
			if got, want := x.Scan(s), m.scan(s); !slices.Equal(got, want) {
				t.Fatalf("Scan(%q): %+v, want %+v", s, got, want)
			}
		}
	}
	if right < 800 || wrong[api.ErrRule] < 800 || wrong[api.ErrSyntax] < 100 {
		t.Errorf("only %d right ones, %v wrong ones", right, wrong)
	}
}
