package smith_test

import (
	"errors"
	"reflect"
	"testing"

	"grammarsmith/action"
	"grammarsmith/api"
	"grammarsmith/smith"
	"grammarsmith/tongue"
)

func num(n int64) *api.Expr   { return &api.Expr{Kind: api.ENum, Num: n} }
func str(s string) *api.Expr  { return &api.Expr{Kind: api.EText, Text: s} }
func arg(n int64) *api.Expr   { return &api.Expr{Kind: api.EArg, Num: n} }
func name(s string) *api.Expr { return &api.Expr{Kind: api.EName, Text: s} }
func let(s string, value, body *api.Expr) *api.Expr {
	return &api.Expr{Kind: api.ELet, Text: s, Kids: []*api.Expr{value, body}}
}
func cond(kids ...*api.Expr) *api.Expr         { return &api.Expr{Kind: api.EIf, Kids: kids} }
func op(s string, kids ...*api.Expr) *api.Expr { return &api.Expr{Kind: api.EOp, Text: s, Kids: kids} }
func neg(kid *api.Expr) *api.Expr              { return &api.Expr{Kind: api.ENeg, Kids: []*api.Expr{kid}} }
func row(kids ...*api.Expr) *api.Expr          { return &api.Expr{Kind: api.EList, Kids: kids} }
func call(s string, kids ...*api.Expr) *api.Expr {
	return &api.Expr{Kind: api.ECall, Text: s, Kids: kids}
}

func whole(n int64) api.Value                 { return api.Value{Kind: api.Int, Num: n} }
func words(s string) api.Value                { return api.Value{Kind: api.Text, Text: s} }
func many(l ...api.Value) api.Value           { return api.Value{Kind: api.List, List: l} }
func knot(s string, l ...api.Value) api.Value { return api.Value{Kind: api.Node, Text: s, List: l} }

func setOf(ranges ...api.Range) *api.Re { return &api.Re{Kind: api.RSet, Set: ranges} }
func one(p int) *api.Re                 { return setOf(api.Range{Lo: p, Hi: p}) }
func cat(kids ...*api.Re) *api.Re       { return &api.Re{Kind: api.RCat, Kids: kids} }

func simple(kind int) api.Type { return api.Type{Kind: kind} }
func lists(n int, t api.Type) api.Type {
	for range n {
		inner := t
		t = api.Type{Kind: api.List, Of: &inner}
	}
	return t
}

func placeOf(err error) int {
	var fault *api.Fault
	if errors.As(err, &fault) {
		return fault.At
	}
	return -1
}

// checkFault asks for an error at a place.
func checkFault(t *testing.T, what string, err, want error, at int) {
	t.Helper()
	fault, ours := err.(*api.Fault)
	if !ours || fault.Err != want || !errors.Is(err, want) || fault.At != at {
		t.Errorf("%.300s: %v at %d, want %v at %d", what, err, placeOf(err), want, at)
	}
}

// checkWrong asks of a text for an error of New and of From, and for no tool.
func checkWrong(t *testing.T, s string, want error, at int) {
	t.Helper()
	x, err := smith.New(s)
	checkFault(t, s, err, want, at)
	said, readErr := tongue.Read(s)
	if readErr != nil {
		t.Fatalf("%.300q: %v at %d", s, readErr, placeOf(readErr))
	}
	y, err := smith.From(said)
	checkFault(t, s, err, want, at)
	if x != nil || y != nil {
		t.Errorf("%.300q: an error, and a tool", s)
	}
}

func mustNew(t *testing.T, s string) *smith.Tool {
	t.Helper()
	x, err := smith.New(s)
	if err != nil || x == nil {
		t.Fatalf("New(%.300q): %v at %d", s, err, placeOf(err))
	}
	return x
}

// selfTool is the tongue's own tool.
func selfTool(t *testing.T) *smith.Tool {
	t.Helper()
	return mustNew(t, smith.Self())
}

func sameValue(a, b api.Value) bool {
	if a.Kind != b.Kind || a.Num != b.Num || a.Text != b.Text || len(a.List) != len(b.List) {
		return false
	}
	for i := range a.List {
		if !sameValue(a.List[i], b.List[i]) {
			return false
		}
	}
	return true
}

// checkRun asks for the value of a text.
func checkRun(t *testing.T, x *smith.Tool, s string, want api.Value) {
	t.Helper()
	got, err := x.Run(s)
	if err != nil || !sameValue(got, want) {
		t.Errorf("Run(%.300q) = %+v, %v at %d, want %+v", s, got, err, placeOf(err), want)
	}
}

// checkUnread asks for an error of Run and of Tree, and for nothing beside it.
func checkUnread(t *testing.T, x *smith.Tool, s string, want error, at int) {
	t.Helper()
	v, err := x.Run(s)
	checkFault(t, s, err, want, at)
	tree, err := x.Tree(s)
	checkFault(t, s, err, want, at)
	if !sameValue(v, api.Value{}) || tree != nil {
		t.Errorf("%.300q: an error, and %+v, %+v", s, v, tree)
	}
}

// same holds two things of package api against each other; a nil list and an empty one are one thing.
func same[T any](a, b T) bool {
	return alike(reflect.ValueOf(a), reflect.ValueOf(b))
}

func alike(a, b reflect.Value) bool {
	switch a.Kind() {
	case reflect.Pointer:
		if a.IsNil() || b.IsNil() {
			return a.IsNil() == b.IsNil()
		}
		return alike(a.Elem(), b.Elem())
	case reflect.Slice:
		if a.Len() != b.Len() {
			return false
		}
		for i := range a.Len() {
			if !alike(a.Index(i), b.Index(i)) {
				return false
			}
		}
		return true
	case reflect.Struct:
		for i := range a.NumField() {
			if !alike(a.Field(i), b.Field(i)) {
				return false
			}
		}
		return true
	}
	return a.Equal(b)
}

// dice gives the same numbers each time.
type dice struct{ seed uint32 }

func (d *dice) next(n int) int {
	d.seed = d.seed*1664525 + 1013904223
	return int(d.seed>>8) % n
}

func (d *dice) happens() bool { return d.next(2) == 0 }

func pick[T any](d *dice, l ...T) T { return l[d.next(len(l))] }

// some makes a list of fewer than so many.
func some[T any](d *dice, most int, make func() T) []T {
	var out []T
	for range d.next(most) {
		out = append(out, make())
	}
	return out
}

// valueOf is the value of a tree by P121's words.
func valueOf(r *api.Tree, actions []*api.Expr, texts []string) api.Value {
	if r.Prod < 0 {
		return words(texts[r.Token])
	}
	var kids []api.Value
	for _, k := range r.Kids {
		kids = append(kids, valueOf(k, actions, texts))
	}
	return action.Eval(actions[r.Prod], kids)
}
