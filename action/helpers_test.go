package action_test

import (
	"slices"
	"testing"

	"grammarsmith/action"
	"grammarsmith/api"
)

func num(n int64) *api.Expr   { return &api.Expr{Kind: api.ENum, Num: n} }
func str(s string) *api.Expr  { return &api.Expr{Kind: api.EText, Text: s} }
func arg(n int64) *api.Expr   { return &api.Expr{Kind: api.EArg, Num: n} }
func name(s string) *api.Expr { return &api.Expr{Kind: api.EName, Text: s} }
func let(s string, value, body *api.Expr) *api.Expr {
	return &api.Expr{Kind: api.ELet, Text: s, Kids: []*api.Expr{value, body}}
}
func cond(kids ...*api.Expr) *api.Expr         { return &api.Expr{Kind: api.EIf, Kids: kids} }
func op(s string, kids ...*api.Expr) *api.Expr { return &api.Expr{Kind: api.EOp, Text: s, Kids: kids} }
func neg(kid *api.Expr) *api.Expr              { return &api.Expr{Kind: api.ENeg, Kids: []*api.Expr{kid}} }
func row(kids ...*api.Expr) *api.Expr          { return &api.Expr{Kind: api.EList, Kids: kids} }
func call(s string, kids ...*api.Expr) *api.Expr {
	return &api.Expr{Kind: api.ECall, Text: s, Kids: kids}
}

// times is a list with one expression, so many times.
func times(e *api.Expr, count int) []*api.Expr { return slices.Repeat([]*api.Expr{e}, count) }

func whole(n int64) api.Value                 { return api.Value{Kind: api.Int, Num: n} }
func words(s string) api.Value                { return api.Value{Kind: api.Text, Text: s} }
func many(l ...api.Value) api.Value           { return api.Value{Kind: api.List, List: l} }
func knot(s string, l ...api.Value) api.Value { return api.Value{Kind: api.Node, Text: s, List: l} }

func simple(kind int) api.Type   { return api.Type{Kind: kind} }
func listOf(t api.Type) api.Type { return api.Type{Kind: api.List, Of: &t} }
func bareList() api.Type         { return api.Type{Kind: api.List} }
func lists(n int, t api.Type) api.Type {
	for range n {
		t = listOf(t)
	}
	return t
}

// same holds two expressions against each other; a nil list and an empty one are one thing.
func same(a, b *api.Expr) bool {
	if a == nil || b == nil {
		return a == b
	}
	return a.Kind == b.Kind && a.Num == b.Num && a.Text == b.Text && slices.EqualFunc(a.Kids, b.Kids, same)
}

func sameValue(a, b api.Value) bool {
	return a.Kind == b.Kind && a.Num == b.Num && a.Text == b.Text && slices.EqualFunc(a.List, b.List, sameValue)
}

func sameType(a, b api.Type) bool {
	if a.Of == nil || b.Of == nil {
		return a == b
	}
	return a.Kind == b.Kind && sameType(*a.Of, *b.Of)
}

func showType(t api.Type) string {
	s := []string{"none", "Int", "Text", "List", "Node"}[t.Kind]
	if t.Of != nil {
		return s + " of " + showType(*t.Of)
	}
	return s
}

// size is how many expressions are in one.
func size(e *api.Expr) int {
	n := 1
	for _, k := range e.Kids {
		n += size(k)
	}
	return n
}

func mustRead(t *testing.T, s string) *api.Expr {
	t.Helper()
	e, err := action.Read(s)
	if err != nil {
		t.Fatalf("Read(%.200q): %v", s, err)
	}
	return e
}

// dice gives the same numbers each time.
type dice struct{ seed uint32 }

func (d *dice) next(n int) int {
	d.seed = d.seed*1664525 + 1013904223
	return int(d.seed>>8) % n
}

func pick[T any](d *dice, l ...T) T { return l[d.next(len(l))] }

var (
	operators = []string{"==", "<", "+", "-", "++", "*", "/", "%"}
	functions = []string{"len", "at", "text", "int", "node", "tag", "kids"}
	takes     = map[string]int{"len": 1, "at": 3, "text": 1, "int": 2, "node": 2, "tag": 1, "kids": 1}
)

func (d *dice) leaf() *api.Expr {
	switch d.next(5) {
	case 0:
		return num(pick[int64](d, 0, 1, 2, 3, 7, 1<<62, 1<<63-1))
	case 1:
		return str(pick(d, "", "a", "ab", "é", "12", "-7", "\"", "\\", "\n", "\\n", "a b", "\u0000\t\r", "\ufffd", "𝄞"))
	case 2:
		return arg(int64(1 + d.next(4)))
	case 3:
		return row()
	}
	return name(pick(d, "a", "b", "c"))
}

// expr is a valid expression of any kind, of at most so many levels; of types it knows nothing.
func (d *dice) expr(levels int) *api.Expr {
	if levels == 0 || d.next(5) == 0 {
		return d.leaf()
	}
	kids := func(n int) []*api.Expr {
		var out []*api.Expr
		for range n {
			out = append(out, d.expr(levels-1))
		}
		return out
	}
	switch d.next(6) {
	case 0:
		return let(pick(d, "a", "b", "c"), d.expr(levels-1), d.expr(levels-1))
	case 1:
		return cond(kids(3)...)
	case 2:
		return op(pick(d, operators...), kids(2)...)
	case 3:
		return neg(d.expr(levels - 1))
	case 4:
		return row(kids(d.next(4))...)
	}
	f := pick(d, functions...)
	return call(f, kids(takes[f])...)
}

// validOnes are so many valid expressions of all kinds.
func validOnes(count int) []*api.Expr {
	d := &dice{seed: 5}
	var out []*api.Expr
	for len(out) < count {
		if e := d.expr(1 + d.next(5)); size(e) <= api.MaxExpr {
			out = append(out, e)
		}
	}
	return out
}
