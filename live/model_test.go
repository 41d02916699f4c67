package live_test

import (
	"slices"
	"strconv"
	"strings"
	"testing"
	"unicode/utf8"

	"grammarsmith/live"
	"grammarsmith/smith"
)

// subjects are the tools of the tests, each with parts of texts for it.
func subjects() map[string][]string {
	return map[string][]string{
		sums:         {"1", "23", "+", " + ", " ", "\n", "0 + 1", "?", "é", "\xff", "\xe2\x82"},
		quotes:       {`"`, `"`, "a", "bé", " ", "\n", "{", "}", "{", "}", "/*", "*/", "*", "/", `"a {b}"`, "?", "\xc3", "\xa9"},
		far:          {"a", "a", "aaa", "b", "c", "d", "q", "cabaq", "€", "\x82"},
		points:       {"a", "é", "€", "\n", "\xff", "\xe2", "\x82", "\xac", "\xc3", "\xa9", "\xf0\x9f", "\x98\x80", "\ufffd", "b"},
		sides:        {"(", "[", ")", "a", "x", "(a)", "[ax", "[[", "?"},
		outside:      {"a", "b", "é", "\n", "\xf0\x9f\x98", "\x80"},
		nothing:      {"a", "\n", "\xe2\x82", "\xac"},
		pairs:        {"1", "23", "+", "*", "^", "=", "(", ")", " ", "1+2*3", "(4^5)^6", "x"},
		smith.Self(): {"grammar g ", "tokens ", "rules ", "a", " = ", "`a|b`", "`", ";", " ", "\n", "# ", "s : int = ", "{ $1 + 2 }", "{", "}", "\"", "[", "]", "(", ")", "1", "-", "?", "\xff"},
	}
}

// edit is a place in a text, often at its ends, and what is put there.
func (d *dice) edit(s string, parts []string) (from, to int, put string) {
	from = d.next(len(s) + 1)
	switch d.next(8) {
	case 0:
		from = 0
	case 1:
		from = len(s)
	}
	to = from
	if d.next(3) > 0 {
		to += min(d.next(6), d.next(len(s)-from+1))
	}
	if d.next(30) == 0 {
		from, to = 0, len(s)
	}
	switch d.next(5) {
	case 0:
	case 1:
		put = s[from:to]
	default:
		put = d.text(parts, 3)
	}
	return from, to, put
}

// P130, P131: many edits of many tools: all is as of the whole text each time, and the work is what the chapter's words say.
func TestAgainstTheWords(t *testing.T) {
	for source, parts := range subjects() {
		b := benchOf(t, source)
		d := &dice{seed: uint32(len(source))}
		for range 60 {
			s := d.text(parts, 12)
			l := liveOf(t, b.tool, s)
			b.check(t, l, s)
			for range 60 {
				from, to, put := d.edit(l.Text(), parts)
				b.checkEdit(t, l, from, to, put)
			}
		}
	}
}

// tool is the text of one of many tools; of some there is none. All that is not left out may stand in any order, or only in pairs.
func (d *dice) tool() string {
	patterns := []string{"a", "b", "c", "ab", "a+", "[ab]+", "a*b", "[ac]*d", "(ab)+c", "[^a]", "[^]", "\\n+", "é", "[é€]+", "\\u{fffd}", "a[^]{2}b", "[^ab]+", "~()&~(.*c.*)", "d"}
	modes := []string{"", ": m ", ": n "}
	turns := []string{"", "", "", "", " skip", " pop", " push m", " push n", " skip push m", " pop push n", " skip pop"}
	s, cases := "grammar g", "{ \"\" }"
	for i := range 2 + d.next(7) {
		name, turn := "p"+strconv.Itoa(i), pick(d, turns)
		s += " tokens " + pick(d, modes) + name + " = `" + pick(d, patterns) + "`" + turn + ";"
		if strings.HasPrefix(turn, " skip") {
			continue
		}
		if d.next(5) == 0 {
			cases += " | s " + name + " " + name + " { $1 ++ $3 ++ $2 }"
		} else {
			cases += " | s " + name + " { $1 ++ \"" + name + ":\" ++ $2 }"
		}
	}
	return s + " rules s : text = " + cases + ";"
}

// P130, P131: edits of many tools.
func TestManyTools(t *testing.T) {
	d := &dice{seed: 71}
	parts := []string{"a", "b", "ab", "c", "d", "aab", "\n", "é", "€", "\xff", "\xe2\x82", "\xac"}
	tools := 0
	for range 1500 {
		source := d.tool()
		if _, err := smith.New(source); err != nil {
			continue
		}
		tools++
		b := benchOf(t, source)
		l := liveOf(t, b.tool, d.text(parts, 12))
		for range 25 {
			from, to, put := d.edit(l.Text(), parts)
			b.checkEdit(t, l, from, to, put)
		}
	}
	if tools < 300 {
		t.Errorf("only %d tools", tools)
	}
}

// P130: how a text came about is nothing to be seen: not in what is said of it, nor in the work of the next edit.
func TestWaysToOneText(t *testing.T) {
	for source, parts := range subjects() {
		b := benchOf(t, source)
		d := &dice{seed: 7}
		for range 60 {
			l := liveOf(t, b.tool, "")
			for range 8 {
				from, to, put := d.edit(l.Text(), parts)
				mustEdit(t, l, from, to, put)
			}
			s := l.Text()
			fresh, typed := liveOf(t, b.tool, s), liveOf(t, b.tool, "")
			for i := range len(s) { // byte by byte, from the end on
				mustEdit(t, typed, 0, 0, s[len(s)-1-i:len(s)-i])
			}
			from, to, put := d.edit(s, parts)
			for _, x := range []*live.Live{l, fresh, typed} {
				b.check(t, x, s)
				b.checkEdit(t, x, from, to, put)
			}
		}
	}
}

// P130: each text of few parts, with each edit that takes away or puts in but little.
func TestAllSmallEdits(t *testing.T) {
	for source, l := range map[string][]string{
		points: {"a€\xe2\x82a", "\xff\n\xc3aé", "\xf0\x9f\x98\x80é"},
		sides:  {"(a)a[a", "[(ax)a", "))a(a"},
		sums:   {"1 + 23\n", "? 1+2", " + +1"},
		quotes: {`a"b{c}"`, `/*/*a*/*/"`, `"{a"}"`},
		far:    {"aacaba", "caaaqaa"},
	} {
		b := benchOf(t, source)
		parts := append(subjects()[source][:6:6], "")
		for _, s := range l {
			for from := range len(s) + 1 {
				for to := from; to <= len(s); to++ {
					for _, put := range parts {
						b.checkEdit(t, liveOf(t, b.tool, s), from, to, put)
					}
				}
			}
		}
	}
}

// The edits of the tests reach all that they are meant to reach.
func TestEditsReachMuch(t *testing.T) {
	seen := map[string]int{}
	note := func(what string, is bool) {
		if is {
			seen[what]++
		}
	}
	for source, parts := range subjects() {
		b := benchOf(t, source)
		d := &dice{seed: uint32(len(source))}
		for range 60 {
			l := liveOf(t, b.tool, d.text(parts, 12))
			for range 60 {
				ahead := l.Text()
				from, to, put := d.edit(ahead, parts)
				w := mustEdit(t, l, from, to, put)
				_, err := l.Run()
				behind := b.cuts(l.Text())
				note("a value", err == nil)
				note("an error", err != nil)
				note("nothing cut", w.Cut == 0 && len(behind) > 1)
				note("all cut", w.Kept == 0 && len(behind) > 1)
				note("kept on both sides", w.Cut > 0 && w.Kept > 1 && w.Shifted > w.Cut && w.Shifted < len(behind))
				note("no change", put == ahead[from:to])
				note("put in", from == to && put != "")
				note("taken away", from < to && put == "")
				note("both", from < to && put != "")
				note("an empty text", ahead == "" || l.Text() == "")
				note("no UTF-8", !utf8.ValidString(l.Text()))
				note("a point parted", from < len(ahead) && !utf8.RuneStart(ahead[from]))
				note("many modes", slices.ContainsFunc(behind, func(c cut) bool { return len(c.modes) > 3 }))
				note("lines", strings.Contains(l.Text(), "\n"))
			}
		}
	}
	for _, what := range []string{"a value", "an error", "nothing cut", "all cut", "kept on both sides", "no change", "put in", "taken away", "both", "an empty text", "no UTF-8", "a point parted", "many modes", "lines"} {
		if seen[what] < 300 {
			t.Errorf("%s: only %d", what, seen[what])
		}
	}
}
