package live_test

import (
	"math"
	"slices"
	"strings"
	"testing"

	"grammarsmith/api"
	"grammarsmith/live"
	"grammarsmith/smith"
)

// P130: a Live of a text says of it what the tool does.
func TestNew(t *testing.T) {
	b := benchOf(t, sums)
	for _, s := range []string{"", "1", "1 + 2", " 12+34 + 56 ", "1 +", "?", "1 1", "é\xff", "\n\n7"} {
		b.check(t, liveOf(t, b.tool, s), s)
	}
	l := liveOf(t, b.tool, "12 + 30")
	checkRun(t, l, whole(42))
	want := []api.Token{{Rule: 0, From: 0, To: 2, Line: 1, Col: 1}, {Rule: 1, From: 3, To: 4, Line: 1, Col: 4}, {Rule: 0, From: 5, To: 7, Line: 1, Col: 6}}
	if got := l.Tokens(); !slices.Equal(got, want) || l.Text() != "12 + 30" {
		t.Errorf("%q: %+v", l.Text(), got)
	}
}

// P130: without a tool there is none.
func TestNewWithoutTool(t *testing.T) {
	for _, x := range []*smith.Tool{nil, {}} { // the other one is a tool that no New gave
		for _, s := range []string{"", "12"} {
			if l := live.New(x, s); l != nil {
				t.Errorf("New(%v, %q): there is one", x, s)
			}
		}
	}
}

// P1: what New gives without a tool says nothing, and stays so.
func TestNothingOfNone(t *testing.T) {
	l := live.New(nil, "12")
	checkBound(t, l, 0, 0, "")
	checkBound(t, l, 0, 1, "1")
	if got := l.Tokens(); l.Text() != "" || len(got) != 0 {
		t.Errorf("%q: %+v", l.Text(), got)
	}
	checkUnread(t, l, api.ErrEnd, 0)
}

// P130: the document's example, and the edits that it speaks of.
func TestEdit(t *testing.T) {
	x := mustNew(t, "grammar n tokens d = `[0-9]+`; rules s : int = d { int($1, 0) };")
	l := liveOf(t, x, "12")
	if w := mustEdit(t, l, 1, 1, "0"); w.Cut != 1 || l.Text() != "102" {
		t.Errorf("%+v, %q", w, l.Text())
	}
	checkRun(t, l, whole(102))
	for _, c := range []struct {
		from, to int
		s, want  string
		value    int64
	}{
		{0, 0, "9", "9102", 9102},
		{4, 4, "8", "91028", 91028},
		{1, 4, "", "98", 98},
		{0, 2, "7", "7", 7},
		{0, 1, "123456", "123456", 123456},
		{2, 4, "00", "120056", 120056},
		{3, 3, "", "120056", 120056},
		{2, 4, "00", "120056", 120056},
		{0, 6, "5", "5", 5},
	} {
		mustEdit(t, l, c.from, c.to, c.s)
		if l.Text() != c.want {
			t.Fatalf("Edit(%d, %d, %q): %q, want %q", c.from, c.to, c.s, l.Text(), c.want)
		}
		checkRun(t, l, whole(c.value))
	}
	mustEdit(t, l, 0, 1, "")
	if got := l.Tokens(); l.Text() != "" || len(got) != 0 {
		t.Errorf("%q: %+v", l.Text(), got)
	}
	checkUnread(t, l, api.ErrEnd, 0)
	mustEdit(t, l, 0, 0, "")
	checkUnread(t, l, api.ErrEnd, 0)
	mustEdit(t, l, 0, 0, "66")
	checkRun(t, l, whole(66))
}

// P130: lines and columns behind an edit are those of the whole text.
func TestLinesAndColumns(t *testing.T) {
	l := liveOf(t, mustNew(t, sums), "1 + 2\n+ 3 + 4\n+ 5")
	for _, c := range []struct {
		from, to  int
		s         string
		line, col int // of the 4, and of the 5
		last, end int
	}{
		{0, 1, "111", 2, 7, 3, 3},
		{5, 5, " \n", 3, 7, 4, 3},
		{10, 10, "é€", 3, 9, 4, 3},
		{10, 15, "\xff\xfe\n", 4, 7, 5, 3},
		{0, 13, "", 1, 7, 2, 3},
	} {
		mustEdit(t, l, c.from, c.to, c.s)
		place := func(digit string) (int, int) {
			at := strings.Index(l.Text(), digit)
			i := slices.IndexFunc(l.Tokens(), func(k api.Token) bool { return k.From == at })
			if i < 0 {
				t.Fatalf("%q: no token at %d", l.Text(), at)
			}
			return l.Tokens()[i].Line, l.Tokens()[i].Col
		}
		if line, col := place("4"); line != c.line || col != c.col {
			t.Errorf("%q: the 4 stands at %d, %d, want %d, %d", l.Text(), line, col, c.line, c.col)
		}
		if line, col := place("5"); line != c.last || col != c.end {
			t.Errorf("%q: the 5 stands at %d, %d, want %d, %d", l.Text(), line, col, c.last, c.end)
		}
	}
}

// P130: what Run says, with the place of an error, also of one that stands where nothing was changed.
func TestRunBehindEdits(t *testing.T) {
	l := liveOf(t, mustNew(t, sums), "1 + 2")
	checkRun(t, l, whole(3))
	mustEdit(t, l, 5, 5, " 3")
	checkUnread(t, l, api.ErrEnd, 6)
	mustEdit(t, l, 0, 0, "10 + ")
	checkUnread(t, l, api.ErrEnd, 11)
	mustEdit(t, l, 12, 12, "\n?")
	checkUnread(t, l, api.ErrSyntax, 13) // ahead of all else
	mustEdit(t, l, 3, 4, "é")
	checkUnread(t, l, api.ErrSyntax, 3)
	mustEdit(t, l, 3, 5, "+")
	checkUnread(t, l, api.ErrSyntax, 13)
	mustEdit(t, l, 12, 14, "")
	checkUnread(t, l, api.ErrEnd, 11)
	mustEdit(t, l, 10, 12, " + ")
	checkUnread(t, l, api.ErrEnd, 13)
	mustEdit(t, l, 10, 13, "")
	checkRun(t, l, whole(13))
	// More reductions than may be ahead of one token.
	x := mustNew(t, "grammar g tokens a = `a`; rules s : int = a s { 1 + $2 } | a { 1 };")
	most := liveOf(t, x, strings.Repeat("a", api.MaxReduce))
	checkRun(t, most, whole(api.MaxReduce))
	mustEdit(t, most, 5, 5, "a")
	checkUnread(t, most, api.ErrBound, api.MaxReduce+1)
	mustEdit(t, most, 9, 10, "")
	checkRun(t, most, whole(api.MaxReduce))
}

// P130: an edit that parts a code point, or puts one together.
func TestEditWithinPoints(t *testing.T) {
	b := benchOf(t, points)
	l := liveOf(t, b.tool, "a€a")
	checkRun(t, l, many("a", "€", "a"))
	b.checkEdit(t, l, 2, 3, "")
	checkRun(t, l, many("a", "\ufffd", "\ufffd", "a"))
	b.checkEdit(t, l, 2, 2, "\x82")
	checkRun(t, l, many("a", "€", "a"))
	b.checkEdit(t, l, 3, 3, "a")
	checkRun(t, l, many("a", "\ufffd", "\ufffd", "a", "\ufffd", "a"))
	b.checkEdit(t, l, 3, 4, "")
	checkRun(t, l, many("a", "€", "a"))
	b.checkEdit(t, l, 2, 4, "")
	checkRun(t, l, many("a", "\ufffd", "a"))
	b.checkEdit(t, l, 2, 3, "\x82\xac\xe2")
	checkRun(t, l, many("a", "€", "\ufffd"))
	b.checkEdit(t, l, 5, 5, "\x82")
	checkRun(t, l, many("a", "€", "\ufffd", "\ufffd"))
	b.checkEdit(t, l, 6, 6, "\xac\xac")
	checkRun(t, l, many("a", "€€", "\ufffd"))
	b.checkEdit(t, l, 0, 1, "")
	b.checkEdit(t, l, 0, 1, "")
	checkRun(t, l, many("\ufffd", "\ufffd", "€", "\ufffd"))
	b.checkEdit(t, l, 0, 0, "\xf0")
	checkRun(t, l, many("\ufffd", "\ufffd", "\ufffd", "€", "\ufffd"))
	b.checkEdit(t, l, 0, 1, "é\xe2")
	checkRun(t, l, many("é€€", "\ufffd"))
}

// P130: modes that begin and end ahead of the same bytes.
func TestEditOfModes(t *testing.T) {
	b := benchOf(t, quotes)
	l := liveOf(t, b.tool, `a "b  c" d`)
	checkRun(t, l, many("a", "<b  c>", "d"))
	b.checkEdit(t, l, 2, 2, `"`)
	checkUnread(t, l, api.ErrEnd, 11)
	b.checkEdit(t, l, 11, 11, `"`)
	checkRun(t, l, many("a", "b", "c", "< d>"))
	b.checkEdit(t, l, 0, 0, "/*")
	checkRun(t, l, many())
	b.checkEdit(t, l, 4, 4, "*/")
	checkRun(t, l, many("b", "c", "< d>"))
	b.checkEdit(t, l, 2, 2, "/*")
	checkRun(t, l, many())
	b.checkEdit(t, l, 0, 2, "")
	checkRun(t, l, many("b", "c", "< d>"))
	b.checkEdit(t, l, 0, 6, `"{a }}"`)
	checkUnread(t, l, api.ErrSyntax, 5)
	b.checkEdit(t, l, 5, 6, "")
	checkRun(t, l, many("a", "b", "c", "< d>"))
	// What ends the outermost mode leaves it.
	b.checkEdit(t, l, 0, 0, "} } ")
	checkUnread(t, l, api.ErrEnd, 0)
	b.checkEdit(t, l, 0, 2, "")
	checkUnread(t, l, api.ErrEnd, 0)
	b.checkEdit(t, l, 0, 2, "")
	checkRun(t, l, many("a", "b", "c", "< d>"))
}

// P130: what is no place in the text, and a from behind to.
func TestEditOfNoPlace(t *testing.T) {
	b := benchOf(t, sums)
	l := liveOf(t, b.tool, "1 + 2")
	for _, c := range [][2]int{
		{-1, 0}, {-1, -1}, {-1, 3}, {0, -1}, {1, 0}, {5, 4}, {3, 2}, {0, 6}, {5, 6}, {6, 6}, {6, 5}, {7, 7}, {-5, 10},
		{math.MinInt, math.MaxInt}, {math.MaxInt, math.MinInt}, {math.MinInt, 0}, {0, math.MaxInt}, {math.MaxInt, math.MaxInt}, {math.MinInt, math.MinInt}, {math.MinInt, -1}, {5, math.MinInt},
	} {
		for _, s := range []string{"", "7", strings.Repeat("1", api.MaxLive+1)} {
			checkBound(t, l, c[0], c[1], s)
		}
	}
	b.check(t, l, "1 + 2")
	empty := liveOf(t, b.tool, "")
	checkBound(t, empty, 0, 1, "")
	checkBound(t, empty, 1, 1, "")
	checkBound(t, empty, -1, 0, "1")
	b.check(t, empty, "")
}

// P130: a text of MaxLive bytes, and what would have one more: then all stays, also for the edit behind it.
func TestEditAtMaxLive(t *testing.T) {
	b := benchOf(t, sums)
	full := strings.Repeat("1 + ", api.MaxLive/4-1) + "2345"
	l, twin := liveOf(t, b.tool, full[1:]), liveOf(t, b.tool, full[1:])
	both := func(from, to int, s string) {
		t.Helper()
		if got, want := mustEdit(t, l, from, to, s), mustEdit(t, twin, from, to, s); got != want {
			t.Errorf("Edit(%d, %d, %q): %+v, want %+v", from, to, s, got, want)
		}
		if l.Text() != twin.Text() || !slices.Equal(l.Tokens(), twin.Tokens()) {
			t.Fatalf("Edit(%d, %d, %q): another text than where nothing was refused", from, to, s)
		}
		v, err := l.Run()
		if w, otherErr := twin.Run(); !sameValue(v, w) || !sameFault(err, otherErr) {
			t.Fatalf("%+v, %v, want %+v, %v", v, err, w, otherErr)
		}
	}
	checkBound(t, l, 0, 0, "11")
	both(0, 0, "1")
	b.check(t, l, full)
	checkBound(t, l, 0, 0, "1")
	checkBound(t, l, len(full), len(full), "1")
	checkBound(t, l, 100, 102, "123")
	checkBound(t, l, 0, len(full), full+"1")
	checkBound(t, l, 50, 51, strings.Repeat("x", api.MaxLive))
	b.check(t, l, full)
	both(0, 0, "")
	checkBound(t, l, 7, 7, "1")
	both(100, 102, "12")
	checkBound(t, l, 7, 8, "??")
	both(40, 41, "")
	both(200, 200, "5")
	checkBound(t, l, 7, 7, "1")
	both(0, len(full), full)
	checkBound(t, l, 0, len(full), full+" ")
	both(0, len(full), "3")
	checkRun(t, l, whole(3))
}

// P130: New takes longer texts, too. Only edits are refused that would leave one.
func TestNewAboveMaxLive(t *testing.T) {
	b := benchOf(t, sums)
	long := strings.Repeat("1", api.MaxLive) + " + 2"
	l := liveOf(t, b.tool, long)
	b.check(t, l, long)
	checkBound(t, l, 0, 0, "")
	checkBound(t, l, 0, 3, "")
	checkBound(t, l, 0, 3, "1")
	b.check(t, l, long)
	b.checkEdit(t, l, 0, 4, "")
	if len(l.Text()) != api.MaxLive {
		t.Errorf("%d bytes", len(l.Text()))
	}
}

// P130: tools with no rules in the mode that holds first, or with none at all.
func TestEditWithoutRules(t *testing.T) {
	for _, s := range []string{outside, nothing} {
		b := benchOf(t, s)
		l := liveOf(t, b.tool, "")
		b.check(t, l, "")
		b.checkEdit(t, l, 0, 0, "aé\n€")
		checkUnread(t, l, api.ErrSyntax, 0)
		b.checkEdit(t, l, 1, 2, "")
		b.checkEdit(t, l, 1, 1, "\xc3")
		b.checkEdit(t, l, 4, 5, "\xe2")
		b.checkEdit(t, l, 0, len(l.Text()), "")
	}
	checkRun(t, liveOf(t, mustNew(t, nothing), ""), whole(7))
}
