package action_test

import (
	"errors"
	"math"
	"reflect"
	"slices"
	"strings"
	"testing"

	"grammarsmith/action"
	"grammarsmith/api"
)

// copyOf is an expression in memory of its own, with what stands behind the ends of its lists.
func copyOf(e *api.Expr) *api.Expr {
	if e == nil {
		return nil
	}
	out := &api.Expr{Kind: e.Kind, Num: e.Num, Text: e.Text}
	for _, k := range e.Kids[:cap(e.Kids)] {
		out.Kids = append(out.Kids, copyOf(k))
	}
	return out
}

func copyOfValue(v api.Value) api.Value {
	var list []api.Value
	for _, k := range v.List[:cap(v.List)] {
		list = append(list, copyOfValue(k))
	}
	v.List = list
	return v
}

func copyOfType(t api.Type) api.Type {
	if t.Of != nil {
		of := copyOfType(*t.Of)
		t.Of = &of
	}
	return t
}

// roomy gives room behind the ends of all lists, where marks show who writes there.
func roomy(e *api.Expr) *api.Expr {
	out := &api.Expr{Kind: e.Kind, Num: e.Num, Text: e.Text}
	for _, k := range e.Kids {
		out.Kids = append(out.Kids, roomy(k))
	}
	out.Kids = append(out.Kids, num(77), num(78), num(79))[:len(e.Kids)]
	return out
}

func roomyValue(v api.Value) api.Value {
	list := make([]api.Value, 0, len(v.List)+3)
	for _, k := range v.List {
		list = append(list, roomyValue(k))
	}
	v.List = append(list, whole(77), whole(78), whole(79))[:len(v.List)]
	return v
}

// asked is all that is given to a call.
type asked struct {
	e     *api.Expr
	text  string
	args  []api.Value
	types []api.Type
}

func (a asked) spacious() asked {
	b := asked{e: roomy(a.e), text: a.text}
	for _, v := range a.args {
		b.args = append(b.args, roomyValue(v))
	}
	for _, t := range a.types {
		b.types = append(b.types, copyOfType(t))
	}
	b.args = append(b.args, whole(77), whole(78))[:len(a.args)]
	b.types = append(b.types, listOf(simple(api.Int)), simple(77))[:len(a.types)]
	return b
}

func (a asked) deep() asked {
	b := asked{e: copyOf(a.e), text: a.text}
	for _, v := range a.args[:cap(a.args)] {
		b.args = append(b.args, copyOfValue(v))
	}
	for _, t := range a.types[:cap(a.types)] {
		b.types = append(b.types, copyOfType(t))
	}
	return b
}

// answer is all that is answered.
type answer struct {
	ok      bool
	read    *api.Expr
	readErr error
	text    string
	textErr error
	tp      api.Type
	tpErr   error
	has     []bool
	value   api.Value
}

func (a asked) answer() answer {
	var out answer
	out.ok = action.Ok(a.e)
	out.read, out.readErr = action.Read(a.text)
	out.text, out.textErr = action.Write(a.e)
	out.tp, out.tpErr = action.Check(a.e, a.types)
	for i := range min(len(a.args), len(a.types)) {
		out.has = append(out.has, action.Has(a.args[i], a.types[i]))
	}
	out.value = action.Eval(a.e, a.args)
	return out
}

func sameError(a, b error) bool {
	var f, g *api.Fault
	if errors.As(a, &f) && errors.As(b, &g) {
		return f.Err == g.Err && f.At == g.At
	}
	return a == b
}

func (a answer) same(b answer) bool {
	return a.ok == b.ok && same(a.read, b.read) && sameError(a.readErr, b.readErr) && a.text == b.text && a.textErr == b.textErr && sameType(a.tp, b.tp) && a.tpErr == b.tpErr && slices.Equal(a.has, b.has) && sameValue(a.value, b.value)
}

// scribble writes into all that was answered.
func (a answer) scribble() {
	scribbleExpr(a.read)
	for t := a.tp.Of; t != nil; t = t.Of {
		t.Kind = 99
	}
	scribbleValue(a.value)
}

func scribbleExpr(e *api.Expr) {
	if e == nil {
		return
	}
	for _, k := range e.Kids[:cap(e.Kids)] {
		scribbleExpr(k)
	}
	for i := range e.Kids[:cap(e.Kids)] {
		e.Kids[:cap(e.Kids)][i] = num(99)
	}
	e.Kind, e.Num, e.Text = 99, 99, "99"
}

func scribbleValue(v api.Value) {
	for i := range v.List[:cap(v.List)] {
		k := &v.List[:cap(v.List)][i]
		scribbleValue(*k)
		*k = whole(99)
	}
}

// samples are expressions of many kinds with values and types, right ones and wrong ones.
func samples() []asked {
	d := &dice{seed: 21}
	types := allTypes(2)
	var out []asked
	for i := range 3000 {
		w := &world{dice: d}
		var args []api.Value
		for range d.next(5) {
			tp := pick(d, types...)
			w.args, args = append(w.args, tp), append(args, d.value(tp, 3))
		}
		e := w.of(pick(d, types...), 1+d.next(4))
		if i%3 == 0 {
			e = d.expr(1 + d.next(4))
		}
		if size(e) > api.MaxExpr {
			continue
		}
		text, _ := action.Write(e)
		if i%5 == 0 {
			text = text[:d.next(len(text)+1)]
		}
		out = append(out, asked{e, text, args, w.args})
	}
	for _, s := range []string{"$1", "[$1, $1]", "$1 ++ $1", "at([$1], 0, $1)", "let a = $1 in [a, [] ++ a]", "if 1 then $1 else []", "[[$1, $1]] ++ [[$1]]", "[] ++ $1", "$1 ++ []"} {
		e, _ := action.Read(s)
		out = append(out, asked{e, s, []api.Value{many(many(whole(1)), many(whole(2), whole(3)))}, []api.Type{lists(2, simple(api.Int))}})
	}
	node := knot("n", knot("m"), knot("o", knot("p")))
	for _, s := range []string{"$1", "kids($1)", "node(tag($1), kids($1))", "node(tag($1), kids($1) ++ kids($1))", "at(kids($1), 1, $1)", "[$1, $1]"} {
		e, _ := action.Read(s)
		out = append(out, asked{e, s, []api.Value{node}, []api.Type{simple(api.Node)}})
	}
	return out
}

// P4: what is handed in stays as it is, also behind the ends of its lists.
func TestInputStays(t *testing.T) {
	for _, a := range samples() {
		a = a.spacious()
		ahead := a.deep()
		a.answer()
		if !reflect.DeepEqual(a.deep(), ahead) {
			t.Errorf("has changed: %+v, was %+v", a, ahead)
		}
	}
}

// P4: what is answered is new: it shares no memory with what was given, nor with what is answered elsewhere.
func TestAnswersAreNew(t *testing.T) {
	for _, a := range samples() {
		a = a.spacious()
		ahead, want, kept := a.deep(), a.answer(), a.answer()
		a.answer().scribble()
		if !reflect.DeepEqual(a.deep(), ahead) {
			t.Errorf("what was given has changed: %+v, was %+v", a, ahead)
		}
		if !kept.same(want) || !a.answer().same(want) {
			t.Errorf("%+v: has become %+v, was %+v", a, kept, want)
		}
	}
}

// P4: no two lists of one answer are one.
func TestListsOfAnAnswerAreApart(t *testing.T) {
	for _, a := range samples() {
		got := a.spacious().answer()
		met := map[*api.Value]int{}
		var through func(v api.Value)
		through = func(v api.Value) {
			for i := range v.List[:cap(v.List)] {
				met[&v.List[:cap(v.List)][i]]++
			}
			for _, k := range v.List {
				through(k)
			}
		}
		through(got.value)
		exprs := map[*api.Expr]int{}
		var along func(e *api.Expr)
		along = func(e *api.Expr) {
			if e != nil {
				exprs[e]++
				for _, k := range e.Kids {
					along(k)
				}
			}
		}
		along(got.read)
		for _, n := range met {
			if n > 1 {
				t.Fatalf("%s: one value stands in two lists", a.text)
			}
		}
		for _, n := range exprs {
			if n > 1 {
				t.Fatalf("%s: one expression stands in two places", a.text)
			}
		}
	}
}

// P4: what was handed in may be changed later.
func TestInputIsNotKept(t *testing.T) {
	for _, a := range samples() {
		want, b := a.answer(), a.spacious()
		got := b.answer()
		scribbleExpr(b.e)
		for i := range b.args {
			scribbleValue(b.args[i])
		}
		for i := range b.types {
			for o := &b.types[i]; o != nil; o = o.Of {
				o.Kind = 99
			}
		}
		if !got.same(want) {
			t.Errorf("has become %+v, was %+v", got, want)
		}
	}
}

// P2: the same is answered each time.
func TestSameEachTime(t *testing.T) {
	for _, a := range samples() {
		want := a.answer()
		for range 3 {
			if got := a.answer(); !got.same(want) {
				t.Fatalf("%+v: %+v, was %+v", a, got, want)
			}
		}
	}
}

// P3: a nil list and an empty one are one thing; with an error all else is zero.
func TestNilAndEmpty(t *testing.T) {
	var full func(e *api.Expr) *api.Expr
	full = func(e *api.Expr) *api.Expr {
		out := &api.Expr{Kind: e.Kind, Num: e.Num, Text: e.Text, Kids: []*api.Expr{}}
		for _, k := range e.Kids {
			out.Kids = append(out.Kids, full(k))
		}
		return out
	}
	var fullValue func(v api.Value) api.Value
	fullValue = func(v api.Value) api.Value {
		list := []api.Value{}
		for _, k := range v.List {
			list = append(list, fullValue(k))
		}
		v.List = list
		return v
	}
	for _, a := range samples() {
		b := asked{full(a.e), a.text, []api.Value{}, append([]api.Type{}, a.types...)}
		for _, v := range a.args {
			b.args = append(b.args, fullValue(v))
		}
		got, want := b.answer(), a.answer()
		if !got.same(want) {
			t.Errorf("%+v: %+v, want %+v", a, got, want)
		}
		if got.readErr != nil && got.read != nil || got.textErr != nil && got.text != "" || got.tpErr != nil && got.tp != (api.Type{}) {
			t.Errorf("%+v: with an error %+v", a, got)
		}
	}
}

// P1: no call panics, whatever it is given, and what is answered fits together.
func TestNothingPanics(t *testing.T) {
	d := &dice{seed: 22}
	seen := map[error]int{}
	for range 60000 {
		a := asked{e: d.odd(1 + d.next(4)), text: d.text()}
		for range d.next(4) {
			a.args = append(a.args, d.oddValue(3))
			a.types = append(a.types, d.oddType())
		}
		got := a.answer()
		if got.ok != (got.textErr == nil) || got.textErr != nil && got.textErr != api.ErrSyntax || !got.ok && got.tpErr != api.ErrSyntax {
			t.Fatalf("%+v: %+v", a, got)
		}
		if got.ok {
			if back, err := action.Read(got.text); err != nil || !same(back, a.e) {
				t.Fatalf("%q: %v", got.text, err)
			}
		}
		if got.readErr == nil && !action.Ok(got.read) {
			t.Fatalf("%q is read as what is not valid", a.text)
		}
		if !slices.Contains(got.has, false) && got.tpErr == nil && len(got.has) == len(a.types) && !action.Has(got.value, got.tp) {
			t.Fatalf("%+v: %+v", a, got)
		}
		seen[got.tpErr]++
	}
	for _, err := range []error{nil, api.ErrSyntax, api.ErrName, api.ErrType} {
		if seen[err] < 1000 {
			t.Errorf("%v: only %d", err, seen[err])
		}
	}
	for what, e := range odd() {
		for _, args := range [][]api.Value{nil, {{}}, {whole(1)}} {
			if v := action.Eval(e, args); !sameValue(v, api.Value{}) {
				t.Errorf("%s is %+v", what, v)
			}
		}
	}
}

// odd is an expression of which something may be wrong.
func (d *dice) odd(levels int) *api.Expr {
	e := d.expr(levels)
	for range d.next(3) {
		at := e
		for len(at.Kids) > 0 && at.Kids[0] != nil && d.next(2) == 0 {
			at = at.Kids[0]
		}
		switch d.next(6) {
		case 0:
			at.Kind = pick(d, -1, 0, 1, 2, 3, 4, 5, 6, 7, 8, 9, 10, 11, math.MaxInt, math.MinInt)
		case 1:
			at.Num = pick[int64](d, -1, 0, 1, 20, 21, math.MaxInt64, math.MinInt64)
		case 2:
			at.Text = pick(d, "", "a", "let", "len", "at", "+", "==", "\xff", strings.Repeat("a", 300))
		case 3:
			at.Kids = append(at.Kids, pick(d, nil, num(1), row()))
		case 4:
			at.Kids = at.Kids[:len(at.Kids)/2]
		}
	}
	return e
}

func (d *dice) text() string {
	var b strings.Builder
	for range d.next(12) {
		b.WriteString(pick(d, "1", "0", "$", "$1", "a", "let", "in", "if", "then", "else", "=", "+", "-", "<", "*", "(", ")", "[", "]", ",", "len", "at", "int", `"`, `\`, "x", " ", " ", " ", "\n", "\t", "\xff", "é", "?"))
	}
	return b.String()
}

func (d *dice) oddType() api.Type {
	if d.next(30) == 0 {
		return pick(d, api.Type{}, simple(5), listOf(api.Type{}), noTypes()["a List of itself"])
	}
	return pick(d, allTypes(2)...)
}

func (d *dice) oddValue(levels int) api.Value {
	if d.next(2) == 0 {
		return d.value(pick(d, allTypes(2)...), 3)
	}
	v := api.Value{Kind: pick(d, -1, 0, 1, 2, 3, 3, 4, 4, 5), Num: pick[int64](d, 0, 0, 0, 1, math.MinInt64), Text: pick(d, "", "", "a", "\xff")}
	for range d.next(3) * min(levels, 1) {
		v.List = append(v.List, d.oddValue(levels-1))
	}
	return v
}
