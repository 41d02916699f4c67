package smith_test

import (
	"slices"
	"testing"

	"grammarsmith/api"
	"grammarsmith/plain"
	"grammarsmith/scan"
	"grammarsmith/smith"
)

// checkReading asks that a reading says what the tool says of the text.
func checkReading(t *testing.T, r *smith.Reading, x *smith.Tool, s string) {
	t.Helper()
	v, err := r.Run()
	want, wantErr := x.Run(s)
	code, at := plain.Code(err)
	if wantCode, wantAt := plain.Code(wantErr); code != wantCode || at != wantAt || !same(v, want) {
		t.Fatalf("%.300q: %+v, %v at %d, want %+v, %v at %d", s, v, err, at, want, wantErr, wantAt)
	}
	tree, _ := r.Tree()
	if other, _ := x.Tree(s); !same(tree, other) {
		t.Fatalf("%.300q: another tree", s)
	}
}

// P121, P122: readings of one text after another, each from any of those ahead of it, say what Run and Tree do; and none of them changes another.
func TestReadings(t *testing.T) {
	d := &dice{seed: 51}
	for source, texts := range samples() {
		x := mustNew(t, source)
		read, all := []string{""}, []*smith.Reading{x.Reading("")}
		for range 60 {
			s := pick(d, texts...)
			if d.happens() {
				s = s[:d.next(len(s)+1)] + pick(d, texts...)
			}
			read, all = append(read, s), append(all, pick(d, all...).Of(s, x.Scanner().Scan(s)))
		}
		for i, r := range all {
			checkReading(t, r, x, read[i])
		}
	}
}

// P4: a reading does not keep the tokens that are handed in, and what it answers is new.
func TestReadingKeepsNothing(t *testing.T) {
	for source, texts := range samples() {
		x := mustNew(t, source)
		for _, s := range texts {
			tokens := roomy(x.Scanner().Scan(s))
			ahead := told(tokens)
			r := x.Reading("").Of(s, tokens)
			if !slices.Equal(told(tokens), ahead) {
				t.Fatalf("%q: the tokens have changed", s)
			}
			scribble(&tokens)
			v, _ := r.Run()
			w, _ := r.Run()
			checkApart(t, s, v, w)
			tree, _ := r.Tree()
			other, _ := r.Of(s, x.Scanner().Scan(s)).Tree()
			checkApart(t, s, tree, other)
			scribble(&v)
			scribble(&tree)
			checkReading(t, r, x, s)
		}
	}
}

// P1: tokens that are none of the text.
func TestReadingOfOddTokens(t *testing.T) {
	d := &dice{seed: 52}
	odd := []int{0, 1, 2, 3, 4, -1, -2, 99, 1 << 40, -1 << 62}
	for source := range samples() {
		x := mustNew(t, source)
		r := x.Reading("")
		for range 2000 {
			tokens := some(d, 5, func() api.Token {
				return api.Token{Rule: pick(d, odd...), From: pick(d, odd...), To: pick(d, odd...)}
			})
			r = r.Of("abc", tokens)
			if v, err := r.Run(); err != nil && !same(v, api.Value{}) {
				t.Fatalf("%+v: an error, and %+v", tokens, v)
			}
		}
		checkReading(t, r.Of("1", x.Scanner().Scan("1")), x, "1")
	}
}

// A tool's scanner is one of its rules; a tool that no New gave has none.
func TestScannerOfTool(t *testing.T) {
	for source, texts := range samples() {
		x := mustNew(t, source)
		own, err := scan.New(x.Rules())
		if err != nil {
			t.Fatal(err)
		}
		for _, s := range texts {
			if got, want := x.Scanner().Scan(s), own.Scan(s); !slices.Equal(got, want) {
				t.Errorf("%q: %+v, want %+v", s, got, want)
			}
		}
	}
	if new(smith.Tool).Scanner() != nil {
		t.Error("there is one")
	}
}
