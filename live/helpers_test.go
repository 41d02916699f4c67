package live_test

import (
	"errors"
	"fmt"
	"reflect"
	"slices"
	"testing"

	"grammarsmith/api"
	"grammarsmith/live"
	"grammarsmith/plain"
	"grammarsmith/scan"
	"grammarsmith/smith"
)

// The texts of the tools that the tests use.
const (
	// sums adds numbers; blanks are left out.
	sums = "grammar sums tokens d = `[0-9]+`; p = `\\+`; b = `[ \\n]+` skip; rules s : int = d { int($1, 0) } | s p d { $1 + int($3, 0) };"
	// quotes has texts within quotes in which blanks count, code within braces in them, and notes that are left out and may stand in one another.
	quotes = "grammar quotes tokens open = `\"` push inner; word = `[a-zé]+`; blank = `[ \\n]+` skip; close_brace = `\\}` pop; note = `/\\*` skip push notes;" +
		"tokens : inner close = `\"` pop; plain = `[^\"{}]+`; open_brace = `\\{` push code;" +
		"tokens : code name = `[a-zé]+`; gap = `[ \\n]+` skip; end = `\\}` pop; again = `\"` pop push inner;" +
		"tokens : notes in_note = `[^*/]+|[*/]` skip; deeper = `/\\*` skip push notes; out = `\\*/` skip pop;" +
		"rules all : list text = { [] } | all one { $1 ++ $2 }; one : list text = word { [$1] } | open quoted close { $2 }; quoted : list text = { [] } | quoted part { $1 ++ $2 };" +
		"part : list text = plain { [\"<\" ++ $1 ++ \">\"] } | open_brace names end { $2 } | open_brace names again { $2 ++ [\"again\"] }; names : list text = { [] } | names name { $1 ++ [$2] };"
	// far looks far ahead, mostly in vain.
	far = "grammar far tokens a = `a`; ab = `a*b`; ad = `[ac]*d`; c = `c`; long = `c[^]{3}q`; rules s : text = { \"\" } | s one { $2 ++ $1 }; one : text = a { $1 } | ab { $1 } | ad { $1 } | c { $1 } | long { $1 };"
	// points is of code points, also of bytes that belong to none.
	points = "grammar points tokens lone = `\\u{fffd}`; some = `[é€]+`; a = `a`; end = `\\n` skip; rules s : list text = { [] } | s one { $1 ++ [$2] }; one : text = lone { $1 } | some { $1 } | a { $1 };"
	// sides has two modes of the same texts, of which only one ends at an x.
	sides = "grammar sides tokens open = `\\(` push round; square = `\\[` push edged; a = `a`; close = `[)]` pop;" +
		"tokens : round r_open = `\\(` push round; r_square = `\\[` push edged; r_a = `a`; r_close = `[)]` pop; tokens : edged e_open = `\\(` push round; e_square = `\\[` push edged; e_a = `a`; e_close = `[)x]` pop;" +
		"rules s : text = { \"\" } | open s { \"o\" ++ $2 } | square s { \"s\" ++ $2 } | a s { \"a\" ++ $2 } | close s { \"c\" ++ $2 } | r_open s { \"ro\" ++ $2 } | r_square s { \"rs\" ++ $2 } | r_a s { \"ra\" ++ $2 } | r_close s { \"rc\" ++ $2 } | e_open s { \"eo\" ++ $2 } | e_square s { \"es\" ++ $2 } | e_a s { \"ea\" ++ $2 } | e_close s { \"ec\" ++ $2 };"
	// outside has rules in another mode than that which holds first.
	outside = "grammar outside tokens : m a = `a`; rules s : int = { 1 } | a { 2 };"
	// nothing has no pieces.
	nothing = "grammar nothing rules s : int = { 7 };"
	// pairs reads operators by levels, and what stands in brackets.
	pairs = "grammar pairs tokens n = `[0-9]+`; plus = `\\+`; times = `\\*`; power = `\\^`; equal = `=`; open = `\\(`; close = `\\)`; b = ` ` skip; levels none equal; left plus; left times; right power;" +
		"rules e : node = e plus e { node($2, [$1, $3]) } | e times e { node($2, [$1, $3]) } | e power e { node($2, [$1, $3]) } | e equal e { node($2, [$1, $3]) } | open e close { node(\"()\", [$2]) } | n { node($1, []) };"
)

func mustNew(t *testing.T, s string) *smith.Tool {
	t.Helper()
	x, err := smith.New(s)
	if err != nil {
		t.Fatalf("New(%.300q): %v", s, err)
	}
	return x
}

func liveOf(t *testing.T, x *smith.Tool, s string) *live.Live {
	t.Helper()
	l := live.New(x, s)
	if l == nil {
		t.Fatalf("New(%.300q): nil", s)
	}
	return l
}

func mustEdit(t *testing.T, l *live.Live, from, to int, s string) live.Work {
	t.Helper()
	w, err := l.Edit(from, to, s)
	if err != nil {
		t.Fatalf("Edit(%d, %d, %.300q) of %.300q: %v", from, to, s, l.Text(), err)
	}
	return w
}

// bench is a tool with a scanner of its rules, by which what a Live says is held against the whole text.
type bench struct {
	tool    *smith.Tool
	rules   []api.Rule
	scanner *scan.Scanner
}

func benchOf(t *testing.T, s string) bench {
	t.Helper()
	b := bench{tool: mustNew(t, s)}
	b.rules = b.tool.Rules()
	x, err := scan.New(b.rules)
	if err != nil {
		t.Fatal(err)
	}
	b.scanner = x
	return b
}

// checkCut asks of a Live that its text is a whole text, and cut as that.
func (b bench) checkCut(t *testing.T, l *live.Live, s string) {
	t.Helper()
	if got := l.Text(); got != s {
		t.Fatalf("Text: %.300q, want %.300q", got, s)
	}
	if got, want := l.Tokens(), b.scanner.Scan(s); !slices.Equal(got, want) {
		t.Fatalf("Tokens of %.300q: %.900s, want %.900s", s, fmt.Sprint(got), fmt.Sprint(want))
	}
}

// check asks of a Live that all is as of a whole text.
func (b bench) check(t *testing.T, l *live.Live, s string) {
	t.Helper()
	b.checkCut(t, l, s)
	v, err := l.Run()
	want, wantErr := b.tool.Run(s)
	if !sameValue(v, want) || !sameFault(err, wantErr) {
		t.Fatalf("Run of %.300q: %.900s, %v at %d, want %.900s, %v at %d", s, fmt.Sprint(v), err, placeOf(err), fmt.Sprint(want), wantErr, placeOf(wantErr))
	}
}

// checkEdit edits, and asks of a Live that all is as of the whole text then, and that the work was what the chapter's words say.
func (b bench) checkEdit(t *testing.T, l *live.Live, from, to int, s string) live.Work {
	t.Helper()
	ahead := l.Text()
	behind := ahead[:from] + s + ahead[to:]
	want := b.work(ahead, behind, from, to)
	got, err := l.Edit(from, to, s)
	if err != nil || got != want {
		t.Fatalf("Edit(%d, %d, %.300q) of %.300q: %+v, %v, want %+v", from, to, s, ahead, got, err, want)
	}
	b.check(t, l, behind)
	return got
}

// cut is a token, the modes ahead of it, and up to which byte it looked.
type cut struct {
	api.Token
	modes []int
	look  int
}

// cuts gives all tokens of a text, one by one.
func (b bench) cuts(s string) []cut {
	var out []cut
	var modes []int
	for at := 0; at < len(s); {
		token, behind, look := b.scanner.Look(s, at, modes)
		out = append(out, cut{token, modes, look})
		at, modes = token.To, behind
	}
	return out
}

// work is that of an edit by P131's words: all is worked out from the tokens of both whole texts.
func (b bench) work(ahead, behind string, from, to int) live.Work {
	old, all := b.cuts(ahead), b.cuts(behind)
	front := 0
	for front < len(old) && old[front].look <= from {
		front++
	}
	w := live.Work{Kept: len(all)}
	for _, c := range all[front:] {
		begun := c.From - (len(behind) - len(ahead))
		if begun >= to && slices.ContainsFunc(old, func(o cut) bool { return o.From == begun && slices.Equal(held(o.modes), held(c.modes)) }) {
			break
		}
		w.Cut++
		w.Kept--
	}
	for _, c := range all[front:] {
		if c.Rule < 0 || !b.rules[c.Rule].Skip {
			w.Shifted++
		}
	}
	return w
}

// held: none at all are mode 0 alone.
func held(modes []int) []int {
	if len(modes) == 0 {
		return []int{0}
	}
	return modes
}

func placeOf(err error) int {
	_, at := plain.Code(err)
	return at
}

// sameFault asks of two errors whether they are the same, at the same place, both as they are told.
func sameFault(a, b error) bool {
	if a == nil || b == nil {
		return a == b
	}
	f, is := a.(*api.Fault)
	code, at := plain.Code(a)
	otherCode, otherAt := plain.Code(b)
	return is && f.At == at && code == otherCode && at == otherAt
}

// checkBound asks for an edit that is refused.
func checkBound(t *testing.T, l *live.Live, from, to int, s string) {
	t.Helper()
	w, err := l.Edit(from, to, s)
	f, is := err.(*api.Fault)
	if !is || f.Err != api.ErrBound || f.At != 0 || !errors.Is(err, api.ErrBound) || w != (live.Work{}) {
		t.Errorf("Edit(%d, %d, %.300q): %+v, %v at %d, want ErrBound at 0", from, to, s, w, err, placeOf(err))
	}
}

// sameValue holds values against each other; a nil list and an empty one are one thing.
func sameValue(a, b api.Value) bool {
	if a.Kind != b.Kind || a.Num != b.Num || a.Text != b.Text || len(a.List) != len(b.List) {
		return false
	}
	for i := range a.List {
		if !sameValue(a.List[i], b.List[i]) {
			return false
		}
	}
	return true
}

func whole(n int64) api.Value  { return api.Value{Kind: api.Int, Num: n} }
func words(s string) api.Value { return api.Value{Kind: api.Text, Text: s} }
func many(l ...string) api.Value {
	v := api.Value{Kind: api.List}
	for _, s := range l {
		v.List = append(v.List, words(s))
	}
	return v
}

// checkRun asks for the value of a Live.
func checkRun(t *testing.T, l *live.Live, want api.Value) {
	t.Helper()
	if v, err := l.Run(); err != nil || !sameValue(v, want) {
		t.Errorf("Run of %.300q: %+v, %v at %d, want %+v", l.Text(), v, err, placeOf(err), want)
	}
}

// checkUnread asks for an error of Run, and for no value.
func checkUnread(t *testing.T, l *live.Live, want error, at int) {
	t.Helper()
	v, err := l.Run()
	f, is := err.(*api.Fault)
	if !is || f.Err != want || f.At != at || !reflect.ValueOf(v).IsZero() {
		t.Errorf("Run of %.300q: %+v, %v at %d, want %v at %d", l.Text(), v, err, placeOf(err), want, at)
	}
}

// dice gives the same numbers each time.
type dice struct{ seed uint32 }

func (d *dice) next(n int) int {
	d.seed = d.seed*1664525 + 1013904223
	return int(d.seed>>8) % n
}

func pick[T any](d *dice, l []T) T { return l[d.next(len(l))] }

// text is of up to so many parts.
func (d *dice) text(parts []string, most int) string {
	s := ""
	for range d.next(most + 1) {
		s += pick(d, parts)
	}
	return s
}
