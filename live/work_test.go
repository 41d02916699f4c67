package live_test

import (
	"testing"

	"grammarsmith/live"
)

// edited is an edit of a text, and the work that it is.
type edited struct {
	text     string
	from, to int
	s        string
	want     live.Work
}

// checkWorks asks for works by hand, each of a Live of its own, and by the chapter's words.
func checkWorks(t *testing.T, tool string, l []edited) {
	t.Helper()
	b := benchOf(t, tool)
	for _, c := range l {
		x := liveOf(t, b.tool, c.text)
		if got := b.checkEdit(t, x, c.from, c.to, c.s); got != c.want {
			t.Errorf("Edit(%d, %d, %q) of %q: %+v, want %+v", c.from, c.to, c.s, c.text, got, c.want)
		}
	}
}

// row is a text of the tool sums: its tokens look up to the bytes 3, 4, 6, 7 and 9.
const row = "12+34+56"

// P131: in front all are kept that looked up to the edit at most; behind it all from the first on that begins where one did.
func TestWork(t *testing.T) {
	checkWorks(t, sums, []edited{
		{row, 4, 4, "0", live.Work{Cut: 1, Kept: 4, Shifted: 3}}, // the first + looked just up to the edit
		{row, 3, 3, "9", live.Work{Cut: 2, Kept: 3, Shifted: 4}}, // here one byte further
		{row, 2, 2, "9", live.Work{Cut: 1, Kept: 4, Shifted: 5}},
		{row, 1, 1, "9", live.Work{Cut: 1, Kept: 4, Shifted: 5}},
		{row, 0, 0, "9", live.Work{Cut: 1, Kept: 4, Shifted: 5}},
		{row, 8, 8, "9", live.Work{Cut: 1, Kept: 4, Shifted: 1}},
		{row, 2, 3, "", live.Work{Cut: 1, Kept: 2, Shifted: 3}},
		{row, 2, 3, "7", live.Work{Cut: 1, Kept: 2, Shifted: 3}},
		{row, 2, 3, "++", live.Work{Cut: 3, Kept: 3, Shifted: 6}},
		{row, 3, 5, "", live.Work{Cut: 1, Kept: 3, Shifted: 3}}, // the second + begins at to
		{row, 3, 4, "", live.Work{Cut: 2, Kept: 3, Shifted: 4}}, // the 4 begins where none did, the + behind it where one did
		{row, 0, 2, "1", live.Work{Cut: 1, Kept: 4, Shifted: 5}},
		{row, 0, 3, "", live.Work{Cut: 0, Kept: 3, Shifted: 3}},
		{row, 0, 4, "", live.Work{Cut: 1, Kept: 2, Shifted: 3}},
		{row, 6, 8, "", live.Work{Cut: 1, Kept: 3, Shifted: 1}},
		{row, 7, 8, "", live.Work{Cut: 1, Kept: 4, Shifted: 1}},
		{row, 0, 8, "4+5", live.Work{Cut: 3, Kept: 0, Shifted: 3}}, // over all of the text
		{row, 0, 8, "", live.Work{}},
		{"", 0, 0, "1+2", live.Work{Cut: 3, Kept: 0, Shifted: 3}},
	})
}

// P131: edits that change nothing do what others do.
func TestWorkOfNoChange(t *testing.T) {
	checkWorks(t, sums, []edited{
		{row, 0, 0, "", live.Work{Cut: 0, Kept: 5, Shifted: 5}},
		{row, 1, 1, "", live.Work{Cut: 1, Kept: 4, Shifted: 5}},
		{row, 2, 2, "", live.Work{Cut: 1, Kept: 4, Shifted: 5}},
		{row, 3, 3, "", live.Work{Cut: 1, Kept: 4, Shifted: 4}},
		{row, 4, 4, "", live.Work{Cut: 1, Kept: 4, Shifted: 3}},
		{row, 8, 8, "", live.Work{Cut: 1, Kept: 4, Shifted: 1}},
		{row, 2, 3, "+", live.Work{Cut: 2, Kept: 3, Shifted: 5}},
		{row, 3, 4, "3", live.Work{Cut: 2, Kept: 3, Shifted: 4}},
		{row, 3, 5, "34", live.Work{Cut: 2, Kept: 3, Shifted: 4}},
		{row, 0, 8, row, live.Work{Cut: 5, Kept: 0, Shifted: 5}},
		{"", 0, 0, "", live.Work{}},
	})
}

// P131: a token that looked up to the end of the text is not kept in front; one that did not is.
func TestWorkAtTheEnd(t *testing.T) {
	checkWorks(t, sums, []edited{
		{"1+2", 3, 3, "0", live.Work{Cut: 1, Kept: 2, Shifted: 1}},
		{"1+2", 3, 3, "+", live.Work{Cut: 2, Kept: 2, Shifted: 2}},
		{"1+", 2, 2, "2", live.Work{Cut: 2, Kept: 1, Shifted: 2}},
		{"1+2", 2, 3, "", live.Work{Cut: 1, Kept: 1, Shifted: 1}},
	})
	// Each a looks for a b, up to the end.
	checkWorks(t, far, []edited{
		{"aaaa", 4, 4, "b", live.Work{Cut: 1, Kept: 0, Shifted: 1}},
		{"aaaa", 4, 4, "", live.Work{Cut: 4, Kept: 0, Shifted: 4}},
		{"aaaa", 2, 2, "", live.Work{Cut: 2, Kept: 2, Shifted: 4}},
		{"aaaab", 4, 5, "", live.Work{Cut: 4, Kept: 0, Shifted: 4}},
		{"aab", 1, 1, "", live.Work{Cut: 1, Kept: 0, Shifted: 1}},
		{"aé", 3, 3, "", live.Work{Cut: 0, Kept: 2, Shifted: 0}},
	})
}

// P131: what is of no rule looked no further than itself, and is read.
func TestWorkOfNoRule(t *testing.T) {
	checkWorks(t, sums, []edited{
		{"1?", 2, 2, "2", live.Work{Cut: 1, Kept: 2, Shifted: 1}},
		{"1?", 2, 2, "", live.Work{Cut: 0, Kept: 2, Shifted: 0}}, // all are kept in front
		{"??", 2, 2, "", live.Work{Cut: 0, Kept: 2, Shifted: 0}},
		{"??", 1, 1, "", live.Work{Cut: 0, Kept: 2, Shifted: 1}},
		{"??", 1, 2, "", live.Work{Cut: 0, Kept: 1, Shifted: 0}},
		{"??", 0, 1, "", live.Work{Cut: 0, Kept: 1, Shifted: 1}},
		{"1?2", 2, 2, "?", live.Work{Cut: 1, Kept: 3, Shifted: 2}},
		{"1?2", 1, 2, "", live.Work{Cut: 1, Kept: 0, Shifted: 1}},
	})
	checkWorks(t, outside, []edited{
		{"aaa", 1, 1, "a", live.Work{Cut: 1, Kept: 3, Shifted: 3}},
		{"aaa", 3, 3, "é", live.Work{Cut: 1, Kept: 3, Shifted: 1}},
	})
}

// P131: a byte that belongs to no code point is looked at with three more.
func TestWorkOfLoneBytes(t *testing.T) {
	checkWorks(t, outside, []edited{
		{"\xffbcdef", 4, 4, "x", live.Work{Cut: 1, Kept: 6, Shifted: 3}},
		{"\xffbcdef", 3, 3, "x", live.Work{Cut: 4, Kept: 3, Shifted: 7}},
		{"\xffbc", 3, 3, "x", live.Work{Cut: 4, Kept: 0, Shifted: 4}}, // that is up to the end
		{"\xe2\x82", 2, 2, "\xac", live.Work{Cut: 1, Kept: 0, Shifted: 1}},
		{"\xe2\x82\xacb", 1, 2, "", live.Work{Cut: 2, Kept: 1, Shifted: 3}},
	})
	// The a looked at the lone byte behind it, and three more.
	checkWorks(t, points, []edited{
		{"a\xffaaaa", 5, 5, "a", live.Work{Cut: 2, Kept: 5, Shifted: 3}},
		{"a\xffaaaa", 4, 4, "a", live.Work{Cut: 5, Kept: 2, Shifted: 7}},
		{"a\ufffdaaaa", 5, 5, "a", live.Work{Cut: 2, Kept: 5, Shifted: 5}}, // this is one of three bytes
	})
}

// P131: tokens of rules with Skip are cut and kept as all are, but are not read.
func TestWorkOfSkip(t *testing.T) {
	checkWorks(t, sums, []edited{
		{"1 + 2", 2, 3, "+", live.Work{Cut: 2, Kept: 3, Shifted: 2}},
		{"1 + 2", 3, 3, " ", live.Work{Cut: 2, Kept: 3, Shifted: 2}},
		{"1 + 2", 1, 5, "", live.Work{Cut: 1, Kept: 0, Shifted: 1}},
		{"1 + 2", 2, 5, "", live.Work{Cut: 1, Kept: 1, Shifted: 0}},
		{"1 + 2", 4, 5, "", live.Work{Cut: 1, Kept: 3, Shifted: 0}},
		{"1 + 2", 0, 0, " ", live.Work{Cut: 1, Kept: 5, Shifted: 3}},
		{"  ", 1, 1, " ", live.Work{Cut: 1, Kept: 0, Shifted: 0}},
		{"  ?  ", 2, 3, "", live.Work{Cut: 1, Kept: 0, Shifted: 0}},
		{" ? ", 1, 1, "?", live.Work{Cut: 2, Kept: 2, Shifted: 2}},
	})
}

// P131: what begins where a token did is kept only where all modes are those that held.
func TestWorkOfModes(t *testing.T) {
	checkWorks(t, quotes, []edited{
		{`a "b" c`, 3, 4, "x", live.Work{Cut: 2, Kept: 5, Shifted: 4}},
		{`a "b" c`, 2, 3, "", live.Work{Cut: 4, Kept: 1, Shifted: 3}},     // the quotes change their places: up to the end no modes are the same
		{`a "b" c`, 2, 5, `""`, live.Work{Cut: 3, Kept: 3, Shifted: 3}},   // the blank behind the quotes stands outside of them again
		{`a "b" c`, 4, 4, `"d"`, live.Work{Cut: 4, Kept: 6, Shifted: 6}},  // so does what stood within
		{`a /*b*/ c`, 4, 4, "/*", live.Work{Cut: 5, Kept: 2, Shifted: 0}}, // the note goes on up to the end
	})
	checkWorks(t, sides, []edited{
		{"(a)a", 0, 1, "[", live.Work{Cut: 3, Kept: 1, Shifted: 4}},
		{"((a", 0, 1, "[", live.Work{Cut: 3, Kept: 0, Shifted: 3}}, // the innermost mode is the same, and there are as many
		{"((a))a", 0, 1, "[", live.Work{Cut: 5, Kept: 1, Shifted: 6}},
		{"(a", 0, 0, "(", live.Work{Cut: 3, Kept: 0, Shifted: 3}}, // there is one mode more
		{"(a", 1, 1, "[)", live.Work{Cut: 3, Kept: 1, Shifted: 4}},
		{"a)a", 1, 1, ")", live.Work{Cut: 2, Kept: 2, Shifted: 4}}, // the last mode stays
		{"a(a)a", 1, 2, ")", live.Work{Cut: 4, Kept: 1, Shifted: 5}},
	})
}
