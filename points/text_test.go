package points_test

import (
	"math"
	"slices"
	"testing"
	"unicode/utf8"

	"grammarsmith/api"
	"grammarsmith/points"
)

const none = 0xFFFD

// P10: code points as UTF-8 has them.
func TestPointsOfGoodTexts(t *testing.T) {
	for _, c := range []struct {
		text string
		want []int
	}{
		{"", nil},
		{"abc", []int{97, 98, 99}},
		{"\x00\x7f", []int{0, 0x7F}},
		{"\u0080\u07ff", []int{0x80, 0x7FF}},
		{"\u0800\ud7ff\ue000\uffff", []int{0x800, 0xD7FF, 0xE000, 0xFFFF}},
		{"\U00010000\U0010ffff", []int{0x10000, 0x10FFFF}},
		{"\ufffd", []int{none}},
		{"\ufeffa", []int{0xFEFF, 97}},
		{"e\u0301", []int{101, 0x301}},
	} {
		if got := points.Points(c.text); !slices.Equal(got, c.want) {
			t.Errorf("Points(%q) = %x, want %x", c.text, got, c.want)
		}
	}
}

// P10: each byte that belongs to no code point is one point FFFD.
func TestPointsOfBrokenTexts(t *testing.T) {
	for _, c := range []struct {
		name, text string
		want       []int
	}{
		{"behind a letter", "a\xff", []int{97, none}},
		{"ahead of a letter", "\xffa", []int{none, 97}},
		{"a following byte alone", "\x80\xbf", []int{none, none}},
		{"a first byte alone", "\xc3", []int{none}},
		{"two of three", "\xe2\x82", []int{none, none}},
		{"two of three, then a letter", "\xe2\x82a", []int{none, none, 97}},
		{"three of four", "\xf0\x9d\x84", []int{none, none, none}},
		{"cut off by a good one", "\xe2\xc3\xa9", []int{none, 0xE9}},
		{"one following byte too many", "\u00e9\xa9", []int{0xE9, none}},
		{"0 in two bytes", "\xc0\x80", []int{none, none}},
		{"7F in two bytes", "\xc1\xbf", []int{none, none}},
		{"7FF in three bytes", "\xe0\x9f\xbf", []int{none, none, none}},
		{"FFFF in four bytes", "\xf0\x8f\xbf\xbf", []int{none, none, none, none}},
		{"110000", "\xf4\x90\x80\x80", []int{none, none, none, none}},
		{"five bytes", "\xf8\x88\x80\x80\x80", []int{none, none, none, none, none}},
		{"the first half", "\xed\xa0\x80", []int{none, none, none}},
		{"the last half", "\xed\xbf\xbf", []int{none, none, none}},
		{"both halves of a pair", "\xed\xa0\xb4\xed\xb4\x9e", []int{none, none, none, none, none, none}},
	} {
		if got := points.Points(c.text); !slices.Equal(got, c.want) {
			t.Errorf("%s: Points(%q) = %x, want %x", c.name, c.text, got, c.want)
		}
	}
}

// P10: the text of what is a code point is read back as it was; what is none is written as FFFD.
func TestTextOfEachNumber(t *testing.T) {
	for p := -2; p <= api.MaxPoint+2; p++ {
		want := p
		if p < 0 || p > api.MaxPoint || p >= 0xD800 && p <= 0xDFFF {
			want = none
		}
		text := points.Text([]int{p})
		if !utf8.ValidString(text) {
			t.Fatalf("Text of %x is no UTF-8: %q", p, text)
		}
		if got := points.Points(text); !slices.Equal(got, []int{want}) {
			t.Fatalf("Text of %x is read back as %x, want %x", p, got, want)
		}
	}
}

func TestTextOfNumbersFarOutside(t *testing.T) {
	for _, p := range []int{math.MinInt, math.MinInt32, math.MaxInt32, 1<<32 + 97, -1<<32 + 97, math.MaxInt} {
		if got := points.Text([]int{97, p, 98}); got != "a\ufffdb" {
			t.Errorf("Text with %d: %q", p, got)
		}
	}
}

func TestTextOfLists(t *testing.T) {
	if got := points.Text(nil); got != "" {
		t.Errorf("Text of nil: %q", got)
	}
	if got := points.Text([]int{}); got != "" {
		t.Errorf("Text of an empty list: %q", got)
	}
	if got := points.Text([]int{0xE9, 0x20AC, 0x1D11E, 0}); got != "é€𝄞\x00" {
		t.Errorf("Text: %q", got)
	}
}

// P4: Points answers new memory, Text leaves its list as it was.
func TestTextKeepsWhatItIsGiven(t *testing.T) {
	l := []int{97, -1, 0xD800}
	points.Text(l)
	if !slices.Equal(l, []int{97, -1, 0xD800}) {
		t.Errorf("Text changed its list: %v", l)
	}
	first := points.Points("ab")
	first[0] = 7
	if got := points.Points("ab"); !slices.Equal(got, []int{97, 98}) {
		t.Errorf("Points shares what it answered: %v", got)
	}
}
