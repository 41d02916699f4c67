package phrase_test

import (
	"slices"
	"testing"

	"grammarsmith/api"
	"grammarsmith/phrase"
)

func pairs(r *phrase.Reader) []string {
	var out []string
	for r.NameComes() {
		name := r.Name()
		r.Want("=")
		if r.Token.Kind != phrase.Number {
			r.Wrong()
		}
		r.Step()
		out = append(out, name)
	}
	return out
}

// Read gives what a function reads, if that is all of the text, and what it throws as the error.
func TestRead(t *testing.T) {
	got, err := phrase.Read("a = 1 b=2", &phrase.Cutter{Text: "a = 1 b=2"}, pairs)
	if err != nil || !slices.Equal(got, []string{"a", "b"}) {
		t.Errorf("%q, %v", got, err)
	}
	for text, at := range map[string]int{"a": 1, "a b": 2, "a = b": 4, "a = 1 ,": 6, "a = 1 ?": 6, "a = 01": 4, "\t": 0} {
		got, err := phrase.Read(text, &phrase.Cutter{Text: text}, pairs)
		fault, ours := err.(*api.Fault)
		if got != nil || !ours || fault.Err != api.ErrSyntax || fault.At != at {
			t.Errorf("%q: %q, %v", text, got, err)
		}
	}
}

// Read does not catch what is no fault.
func TestReadOfAnotherPanic(t *testing.T) {
	defer func() {
		if thrown := recover(); thrown != "another" {
			t.Errorf("%v was thrown", thrown)
		}
	}()
	phrase.Read("", &phrase.Cutter{}, func(*phrase.Reader) int { panic("another") })
}

func TestTokens(t *testing.T) {
	c := &phrase.Cutter{Text: "let x\n== 12 $3 \"a\\n\" len++"}
	for _, want := range []phrase.Token{{Kind: phrase.Mark, From: 0, Text: "let"}, {Kind: phrase.Name, From: 4, Text: "x"}, {Kind: phrase.Mark, From: 6, Text: "=="}, {Kind: phrase.Number, From: 9, Num: 12}, {Kind: phrase.Place, From: 12, Num: 3}, {Kind: phrase.Text, From: 15, Text: "a\n"}, {Kind: phrase.Mark, From: 21, Text: "len"}, {Kind: phrase.Mark, From: 24, Text: "++"}, {Kind: phrase.Mark, From: 26}, {Kind: phrase.Mark, From: 26}} {
		if got := c.Next(); got != want {
			t.Errorf("%+v, want %+v", got, want)
		}
	}
}

// TokenOf tells what a text is as a whole, and Leaf which expression that is alone.
func TestTokenOf(t *testing.T) {
	for s, want := range map[string]api.Expr{"12": {Kind: api.ENum, Num: 12}, "0": {Kind: api.ENum}, `"a\n"`: {Kind: api.EText, Text: "a\n"}, `""`: {Kind: api.EText}, "$20": {Kind: api.EArg, Num: 20}, "x": {Kind: api.EName, Text: "x"}, "skip": {Kind: api.EName, Text: "skip"}} {
		e := phrase.TokenOf(s).Leaf()
		if e == nil || e.Kind != want.Kind || e.Num != want.Num || e.Text != want.Text || e.Kids != nil {
			t.Errorf("%q: %+v", s, e)
		}
	}
	for _, s := range []string{"", " ", "1 ", " 1", "1+2", "01", "$0", "$21", `"`, `"a" "b"`, "x y", "let", "len", "==", "(", "[]", "\xff", "`a`", "9223372036854775808"} {
		if e := phrase.TokenOf(s).Leaf(); e != nil {
			t.Errorf("%q: %+v", s, e)
		}
	}
	for s, want := range map[string]int{"": phrase.Mark, "let": phrase.Mark, "<": phrase.Mark, "< ": phrase.None, "x": phrase.Name, "x;": phrase.None, "07": phrase.None} {
		if got := phrase.TokenOf(s); got.Kind != want {
			t.Errorf("%q: %+v", s, got)
		}
	}
}
