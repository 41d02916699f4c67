package tongue_test

import (
	"errors"
	"slices"
	"strings"
	"testing"

	"grammarsmith/action"
	"grammarsmith/api"
	"grammarsmith/pattern"
	"grammarsmith/tongue"
)

func num(n int64) *api.Expr   { return &api.Expr{Kind: api.ENum, Num: n} }
func str(s string) *api.Expr  { return &api.Expr{Kind: api.EText, Text: s} }
func arg(n int64) *api.Expr   { return &api.Expr{Kind: api.EArg, Num: n} }
func name(s string) *api.Expr { return &api.Expr{Kind: api.EName, Text: s} }
func let(s string, value, body *api.Expr) *api.Expr {
	return &api.Expr{Kind: api.ELet, Text: s, Kids: []*api.Expr{value, body}}
}
func cond(kids ...*api.Expr) *api.Expr         { return &api.Expr{Kind: api.EIf, Kids: kids} }
func op(s string, kids ...*api.Expr) *api.Expr { return &api.Expr{Kind: api.EOp, Text: s, Kids: kids} }
func neg(kid *api.Expr) *api.Expr              { return &api.Expr{Kind: api.ENeg, Kids: []*api.Expr{kid}} }
func row(kids ...*api.Expr) *api.Expr          { return &api.Expr{Kind: api.EList, Kids: kids} }
func call(s string, kids ...*api.Expr) *api.Expr {
	return &api.Expr{Kind: api.ECall, Text: s, Kids: kids}
}

// times is a list with one expression, so many times.
func times(e *api.Expr, count int) []*api.Expr { return slices.Repeat([]*api.Expr{e}, count) }

func setOf(ranges ...api.Range) *api.Re { return &api.Re{Kind: api.RSet, Set: ranges} }
func one(p int) *api.Re                 { return setOf(api.Range{Lo: p, Hi: p}) }
func cat(kids ...*api.Re) *api.Re       { return &api.Re{Kind: api.RCat, Kids: kids} }

func simple(kind int) api.Type { return api.Type{Kind: kind} }
func lists(n int, t api.Type) api.Type {
	for range n {
		inner := t
		t = api.Type{Kind: api.List, Of: &inner}
	}
	return t
}

// piece is one of the outermost mode behind which nothing happens.
func piece(name string, p *api.Re) api.Piece { return api.Piece{Name: name, Pattern: p, Push: "-"} }
func rank(side int, names ...string) api.Rank {
	return api.Rank{Side: side, Names: names}
}
func sort(name string, t api.Type, cases ...api.Case) api.Sort {
	return api.Sort{Name: name, Type: t, Cases: cases}
}
func makes(e *api.Expr, symbols ...string) api.Case { return api.Case{Symbols: symbols, Action: e} }
func levelled(level string, e *api.Expr, symbols ...string) api.Case {
	return api.Case{Symbols: symbols, Level: level, Action: e}
}

// within is a Spec with one sort, of one case with an action.
func within(e *api.Expr) api.Spec {
	return api.Spec{Name: "g", Sorts: []api.Sort{sort("s", simple(api.Int), makes(e))}}
}

// cutBy is a Spec with one piece, of a pattern.
func cutBy(p *api.Re) api.Spec {
	return api.Spec{Name: "g", Pieces: []api.Piece{piece("p", p)}}
}

// same holds two Specs against each other; a nil list and an empty one are one thing.
func same(a, b api.Spec) bool {
	return a.Name == b.Name && slices.EqualFunc(a.Pieces, b.Pieces, samePiece) && slices.EqualFunc(a.Ranks, b.Ranks, sameRank) && slices.EqualFunc(a.Sorts, b.Sorts, sameSort)
}

func samePiece(a, b api.Piece) bool {
	return a.Name == b.Name && a.Mode == b.Mode && a.Skip == b.Skip && a.Pop == b.Pop && a.Push == b.Push && samePattern(a.Pattern, b.Pattern)
}

func sameRank(a, b api.Rank) bool { return a.Side == b.Side && slices.Equal(a.Names, b.Names) }

func sameSort(a, b api.Sort) bool {
	return a.Name == b.Name && sameType(a.Type, b.Type) && slices.EqualFunc(a.Cases, b.Cases, sameCase)
}

func sameCase(a, b api.Case) bool {
	return slices.Equal(a.Symbols, b.Symbols) && a.Level == b.Level && sameExpr(a.Action, b.Action)
}

func sameType(a, b api.Type) bool {
	for a.Of != nil && b.Of != nil && a.Kind == b.Kind {
		a, b = *a.Of, *b.Of
	}
	return a == b
}

func samePattern(a, b *api.Re) bool {
	if a == nil || b == nil {
		return a == b
	}
	return a.Kind == b.Kind && a.Min == b.Min && a.Max == b.Max && slices.Equal(a.Set, b.Set) && slices.EqualFunc(a.Kids, b.Kids, samePattern)
}

func sameExpr(a, b *api.Expr) bool {
	if a == nil || b == nil {
		return a == b
	}
	return a.Kind == b.Kind && a.Num == b.Num && a.Text == b.Text && slices.EqualFunc(a.Kids, b.Kids, sameExpr)
}

func mustRead(t *testing.T, s string) api.Spec {
	t.Helper()
	x, err := tongue.Read(s)
	if err != nil {
		t.Fatalf("Read(%.300q): %v at %d", s, err, placeOf(err))
	}
	return x
}

func placeOf(err error) int {
	var fault *api.Fault
	if errors.As(err, &fault) {
		return fault.At
	}
	return -1
}

func checkRead(t *testing.T, s string, want api.Spec) {
	t.Helper()
	got, err := tongue.Read(s)
	if err != nil || !same(got, want) {
		t.Errorf("Read(%.300q) = %+v, %v at %d, want %+v", s, got, err, placeOf(err), want)
	}
}

// checkWrong asks for an error at a place, and for nothing beside it.
func checkWrong(t *testing.T, text string, want error, at int) {
	t.Helper()
	x, err := tongue.Read(text)
	fault, ours := err.(*api.Fault)
	if !ours || fault.Err != want || !errors.Is(err, want) || fault.At != at {
		t.Errorf("Read(%.300q): %v at %d, want %v at %d", text, err, placeOf(err), want, at)
	}
	if x.Name != "" || x.Pieces != nil || x.Ranks != nil || x.Sorts != nil {
		t.Errorf("Read(%.300q): with an error %+v", text, x)
	}
}

// wrong is a text with the place at which it is wrong.
type wrong struct {
	text string
	at   int
}

func checkSyntax(t *testing.T, l []wrong) {
	t.Helper()
	for _, c := range l {
		checkWrong(t, c.text, api.ErrSyntax, c.at)
	}
}

// marked is a text with ^ ahead of the place at which it is wrong.
func marked(s string) wrong {
	at := strings.Index(s, "^")
	return wrong{s[:at] + s[at+1:], at}
}

// checkBack asks that Read turns what Write gives into the same.
func checkBack(t *testing.T, what string, x api.Spec) string {
	t.Helper()
	text, err := tongue.Write(x)
	if err != nil || len(text) > api.MaxText {
		t.Fatalf("%s: %d bytes, %v", what, len(text), err)
	}
	got, err := tongue.Read(text)
	if err != nil || !same(got, x) {
		t.Fatalf("%s: %.300q is read as %+v, %v at %d", what, text, got, err, placeOf(err))
	}
	return text
}

func checkRefused(t *testing.T, what string, x api.Spec, want error) {
	t.Helper()
	if text, err := tongue.Write(x); text != "" || err != want {
		t.Errorf("%s: %.60q, %v, want %v", what, text, err, want)
	}
}

// dice gives the same numbers each time.
type dice struct{ seed uint32 }

func (d *dice) next(n int) int {
	d.seed = d.seed*1664525 + 1013904223
	return int(d.seed>>8) % n
}

func (d *dice) happens() bool { return d.next(2) == 0 }

func pick[T any](d *dice, l ...T) T { return l[d.next(len(l))] }

// some makes a list of fewer than so many.
func some[T any](d *dice, most int, make func() T) []T {
	var out []T
	for range d.next(most) {
		out = append(out, make())
	}
	return out
}

var (
	keywords  = []string{"grammar", "tokens", "levels", "rules", "skip", "pop", "push", "left", "right", "none", "list", "node", "int", "text", "let", "in", "if", "then", "else", "len", "at", "tag", "kids"}
	operators = []string{"==", "<", "+", "-", "++", "*", "/", "%"}
	takes     = map[string]int{"len": 1, "at": 3, "text": 1, "int": 2, "node": 2, "tag": 1, "kids": 1}
	functions = []string{"len", "at", "text", "int", "node", "tag", "kids"}
	long      = "a" + strings.Repeat("z9_", 13)
)

func (d *dice) name() string {
	return pick(d, "a", "b", "c", "n", "a_1", "x9", "tokens_", "lefts", "i", "grammars", "list2", "no", "ne", "poppush", long)
}

func (d *dice) leaf() *api.Expr {
	switch d.next(5) {
	case 0:
		return num(pick[int64](d, 0, 1, 2, 10, 1<<62, 1<<63-1))
	case 1:
		return str(pick(d, "", "a", "é", "\"", "\\", "\n", "\\n", "a # b", "`", "; } {", "\x00\t\r", "\ufffd", "𝄞", strings.Repeat("x", 200)))
	case 2:
		return arg(int64(1 + d.next(api.MaxRight)))
	case 3:
		return row()
	}
	return name(d.name())
}

// expr is an expression of at most so many levels.
func (d *dice) expr(levels int) *api.Expr {
	if levels == 0 || d.next(4) == 0 {
		return d.leaf()
	}
	kids := func(n int) []*api.Expr {
		var out []*api.Expr
		for range n {
			out = append(out, d.expr(levels-1))
		}
		return out
	}
	switch d.next(6) {
	case 0:
		return let(d.name(), d.expr(levels-1), d.expr(levels-1))
	case 1:
		return cond(kids(3)...)
	case 2:
		return op(pick(d, operators...), kids(2)...)
	case 3:
		return neg(d.expr(levels - 1))
	case 4:
		return row(kids(d.next(4))...)
	}
	f := pick(d, functions...)
	return call(f, kids(takes[f])...)
}

func (d *dice) pattern() *api.Re {
	for {
		if p := d.parts(d.next(4)); pattern.Ok(p) {
			return p
		}
	}
}

func (d *dice) parts(levels int) *api.Re {
	if levels == 0 {
		return d.set()
	}
	kids := []*api.Re{d.parts(levels - 1), d.parts(levels - 1)}
	switch kind := 1 + d.next(6); kind {
	case api.RCat, api.ROr, api.RAnd:
		return &api.Re{Kind: kind, Kids: kids}
	case api.RNot:
		return &api.Re{Kind: kind, Kids: kids[:1:1]}
	case api.RRep:
		least := d.next(3)
		return &api.Re{Kind: kind, Min: least, Max: pick(d, -1, max(least, 1), least+2), Kids: kids[:1:1]}
	}
	return d.set()
}

// set is one with points that have a meaning in patterns, or around them.
func (d *dice) set() *api.Re {
	switch d.next(6) {
	case 0:
		return cat()
	case 1:
		return setOf()
	case 2:
		return setOf(api.Range{Lo: 0, Hi: 9}, api.Range{Lo: 11, Hi: api.MaxPoint})
	case 3:
		return setOf(api.Range{Lo: 'a', Hi: 'z'})
	}
	return one(pick[int](d, '`', '`', '#', '"', '\\', '\n', '\r', '\t', ' ', ';', '[', ']', '^', '-', '~', 'a', 0, 0xd800, 0xe9, 0xfffd, api.MaxPoint))
}

func (d *dice) piece() api.Piece {
	return api.Piece{Name: d.name(), Mode: pick(d, "", "", d.name()), Pattern: d.pattern(), Skip: d.happens(), Pop: d.happens(), Push: pick(d, "-", d.name())}
}

func (d *dice) rank() api.Rank {
	return rank(pick(d, api.ToLeft, api.ToRight, api.ToNone), append(some(d, 4, d.name), d.name())...)
}

func (d *dice) sort() api.Sort {
	return sort(d.name(), lists(d.next(3), simple(pick(d, api.Int, api.Text, api.Node))), append(some(d, 4, d.oneCase), d.oneCase())...)
}

func (d *dice) oneCase() api.Case {
	e := d.expr(d.next(5))
	for !action.Ok(e) {
		e = d.expr(2)
	}
	return levelled(pick(d, "", d.name()), e, some(d, 4, d.name)...)
}

// spec is something that can be said, of any kind.
func (d *dice) spec() api.Spec {
	return api.Spec{Name: d.name(), Pieces: some(d, 6, d.piece), Ranks: some(d, 4, d.rank), Sorts: some(d, 4, d.sort)}
}
