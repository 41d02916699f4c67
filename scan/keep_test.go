package scan_test

import (
	"maps"
	"slices"
	"testing"

	"grammarsmith/api"
	"grammarsmith/pattern"
	"grammarsmith/scan"
)

func wipe(p *api.Re) {
	for i := range p.Set {
		p.Set[i] = api.Range{Lo: -1, Hi: -1}
	}
	for i, k := range p.Kids {
		wipe(k)
		p.Kids[i] = nil
	}
	*p = api.Re{}
}

// P4: New neither changes nor keeps its rules.
func TestNewKeepsNothing(t *testing.T) {
	const text = "a<b<c<a>c>b>a!c>"
	l := modeRules(t)
	var told []string
	for _, r := range l {
		s, _ := pattern.Write(r.Re)
		told = append(told, s)
	}
	ahead := slices.Clone(l)
	x := newOf(t, l)
	want := x.Scan(text)
	for i, r := range l {
		if s, _ := pattern.Write(r.Re); s != told[i] || r != ahead[i] {
			t.Errorf("rule %d has changed: %+v", i, r)
		}
	}
	for i := range l {
		wipe(l[i].Re)
		l[i] = api.Rule{Mode: 9, Push: 9, Skip: true, Pop: !l[i].Pop}
	}
	if got := x.Scan(text); !slices.Equal(got, want) {
		t.Errorf("%+v, want %+v", got, want)
	}
}

// P4: rules that are wrong stay as they are, too.
func TestNewKeepsNothingOfWrongRules(t *testing.T) {
	l := modeRules(t)
	l[9].Push = 12
	ahead := slices.Clone(l)
	checkFault(t, "a push", l, api.ErrRule, 9)
	if !slices.Equal(l, ahead) {
		t.Errorf("the rules have changed: %+v", l)
	}
}

// P4: modes that are handed in stay, also behind their end, and those that are answered are new.
func TestModesAreNew(t *testing.T) {
	x := newOf(t, modeRules(t))
	for _, s := range []string{"a", "<", ">", "!", "?", ""} {
		room := []int{0, 1, 0, 77, 78, 79}
		for _, look := range []bool{false, true} {
			modes := room[:3]
			call := func() []int {
				if look {
					_, behind, _ := x.Look(s, 0, modes)
					return behind
				}
				_, behind := x.Next(s, 0, modes)
				return behind
			}
			first := call()
			want := slices.Clone(first)
			for i := range first[:cap(first)] {
				first[:cap(first)][i] = 55
			}
			if !slices.Equal(room, []int{0, 1, 0, 77, 78, 79}) {
				t.Fatalf("%q: the modes have changed: %v", s, room)
			}
			if again := call(); !slices.Equal(again, want) {
				t.Errorf("%q: %v, want %v", s, again, want)
			}
		}
	}
	_, behind := x.Next("a", 0, nil)
	behind[0] = 44
	if _, again := x.Next("a", 0, nil); !slices.Equal(again, []int{0}) {
		t.Errorf("without modes: %v", again)
	}
}

// P2, P4: a scanner is not changed by its calls, and its answers are new.
func TestScannerStays(t *testing.T) {
	const text = "aaab<b!c>\xffaaa"
	x := newOf(t, modeRules(t))
	want := x.Scan(text)
	first := x.Scan(text)
	for i := range first[:cap(first)] {
		first[:cap(first)][i] = api.Token{Rule: 3}
	}
	x.Next(text, 4, []int{1})
	x.Look(text, -3, nil)
	x.Scan("<<<<<")
	if got := x.Scan(text); !slices.Equal(got, want) {
		t.Errorf("%+v, want %+v", got, want)
	}
}

// P4: scanners of the same rules are apart, and many may be asked at once.
func TestScannersAtOnce(t *testing.T) {
	const text = "a<b<c<a>c>b>a!c>\xff"
	x := newOf(t, modeRules(t))
	want := x.Scan(text)
	done := make(chan bool)
	for range 8 {
		go func() {
			same := true
			for range 50 {
				same = same && slices.Equal(x.Scan(text), want)
			}
			done <- same
		}()
	}
	for range 8 {
		if !<-done {
			t.Error("another answer")
		}
	}
}

// P1: whatever is given.
func TestNothingPanics(t *testing.T) {
	d := &dice{seed: 3}
	odd := []int{0, 1, 2, -1, -2, 15, 16, 1 << 40, -1 << 62}
	var patterns []*api.Re
	wrong := wrongPatterns()
	for _, name := range slices.Sorted(maps.Keys(wrong)) {
		patterns = append(patterns, wrong[name])
	}
	for _, s := range []string{"a", "b+", "[^]+", "[]", "", "~[]"} {
		patterns = append(patterns, read(t, s))
	}
	for range 3000 {
		var l []api.Rule
		for range d.next(5) {
			l = append(l, api.Rule{Re: one(d, patterns), Mode: one(d, odd), Push: one(d, odd), Pop: d.next(2) == 0, Skip: d.next(2) == 0})
		}
		x, err := scan.New(l)
		if (x == nil) != (err != nil) {
			t.Fatalf("%+v: %v, %v", l, x, err)
		}
	}
	for _, x := range []*scan.Scanner{newOf(t, nil), newOf(t, modeRules(t))} {
		for range 3000 {
			s := d.text(6)
			modes := []int{}
			for range d.next(4) {
				modes = append(modes, one(d, odd))
			}
			at := one(d, append(odd, d.next(9)))
			tok, behind, to := x.Look(s, at, modes)
			if tok.To < tok.From || tok.To > len(s) || len(behind) == 0 || to < tok.To {
				t.Fatalf("%q at %d in %v: %+v, %v, %d", s, at, modes, tok, behind, to)
			}
		}
	}
}
