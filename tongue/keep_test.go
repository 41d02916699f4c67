package tongue_test

import (
	"errors"
	"math"
	"reflect"
	"slices"
	"strings"
	"testing"

	"grammarsmith/api"
	"grammarsmith/tongue"
)

// roomyList is a list in memory of its own, with room behind its end, where what stands there shows who writes there.
func roomyList[T any](l []T, copy func(T) T, behind T) []T {
	out := make([]T, 0, len(l)+2)
	for _, x := range l {
		out = append(out, copy(x))
	}
	return append(out, behind, behind)[:len(l)]
}

func itself[T any](x T) T { return x }

// roomy is a Spec in memory of its own, with room behind the ends of all lists.
func roomy(x api.Spec) api.Spec {
	x.Pieces = roomyList(x.Pieces, roomyPiece, api.Piece{Name: "behind"})
	x.Ranks = roomyList(x.Ranks, roomyRank, api.Rank{Side: 77})
	x.Sorts = roomyList(x.Sorts, roomySort, api.Sort{Name: "behind"})
	return x
}

func roomyPiece(p api.Piece) api.Piece {
	p.Pattern = roomyPattern(p.Pattern)
	return p
}

func roomyPattern(p *api.Re) *api.Re {
	if p == nil {
		return nil
	}
	out := *p
	out.Set = roomyList(p.Set, itself, api.Range{Lo: 77, Hi: 77})
	out.Kids = roomyList(p.Kids, roomyPattern, &api.Re{Kind: 77})
	return &out
}

func roomyRank(r api.Rank) api.Rank {
	r.Names = roomyList(r.Names, itself, "behind")
	return r
}

func roomySort(s api.Sort) api.Sort {
	s.Type, s.Cases = copyOfType(s.Type), roomyList(s.Cases, roomyCase, api.Case{Level: "behind"})
	return s
}

func copyOfType(t api.Type) api.Type {
	if t.Of != nil {
		of := copyOfType(*t.Of)
		t.Of = &of
	}
	return t
}

func roomyCase(c api.Case) api.Case {
	c.Symbols, c.Action = roomyList(c.Symbols, itself, "behind"), roomyExpr(c.Action)
	return c
}

func roomyExpr(e *api.Expr) *api.Expr {
	if e == nil {
		return nil
	}
	out := *e
	out.Kids = roomyList(e.Kids, roomyExpr, &api.Expr{Kind: 77})
	return &out
}

// through goes through all lists of a value, up to the ends of their room, and hands each thing that may be written to a function.
func through(v reflect.Value, each func(v reflect.Value)) {
	switch v.Kind() {
	case reflect.Pointer:
		if !v.IsNil() {
			through(v.Elem(), each)
		}
	case reflect.Slice:
		for i := range v.Cap() {
			through(v.Slice(0, v.Cap()).Index(i), each)
		}
	case reflect.Struct:
		for i := range v.NumField() {
			through(v.Field(i), each)
		}
	default:
		each(v)
	}
}

// scribble writes into all that lies in a Spec.
func scribble(x *api.Spec) {
	through(reflect.ValueOf(x), func(v reflect.Value) {
		switch v.Kind() {
		case reflect.String:
			v.SetString("99")
		case reflect.Bool:
			v.SetBool(!v.Bool())
		default:
			v.SetInt(99)
		}
	})
}

// spread tells all that lies in a Spec, with what stands behind the ends of its lists.
func spread(x api.Spec) []any {
	var out []any
	through(reflect.ValueOf(x), func(v reflect.Value) { out = append(out, v.Interface()) })
	return out
}

// places tells where all that lies in a Spec lies.
func places(x *api.Spec) []uintptr {
	var out []uintptr
	through(reflect.ValueOf(x), func(v reflect.Value) { out = append(out, v.Addr().Pointer()) })
	return out
}

// samples are Specs of many kinds, some of which can not be said.
func samples() []api.Spec {
	d := &dice{seed: 21}
	out := []api.Spec{specOfAll(), {}, {Name: "g"}}
	for range 400 {
		out = append(out, d.spec())
		out = append(out, d.odd())
	}
	return out
}

// texts are texts of many kinds, right ones and wrong ones.
func texts() []string {
	d := &dice{seed: 22}
	out := []string{"", tokensOfAll}
	for range 400 {
		w := &teller{dice: d}
		w.spec(d.spec())
		text, _ := joined(d, w.tokens)
		out = append(out, text, text[:d.next(len(text))], d.text())
	}
	return out
}

// P4: what is handed in stays as it is, also behind the ends of its lists.
func TestInputStays(t *testing.T) {
	for _, x := range samples() {
		x = roomy(x)
		ahead := spread(x)
		tongue.Write(x)
		if !slices.Equal(spread(x), ahead) {
			t.Fatalf("has changed: %+v", x)
		}
	}
}

// P4: what is answered is new: writing into it changes nothing that is answered elsewhere.
func TestAnswersAreNew(t *testing.T) {
	for _, s := range texts() {
		want, _ := tongue.Read(s)
		kept, _ := tongue.Read(s)
		other, _ := tongue.Read(s)
		scribble(&other)
		again, _ := tongue.Read(s)
		if !same(kept, want) || !same(again, want) {
			t.Fatalf("%q: has become %+v", s, kept)
		}
	}
}

// P4: no two lists of one answer share memory.
func TestListsOfAnAnswerAreApart(t *testing.T) {
	for _, s := range texts() {
		x, _ := tongue.Read(s)
		all := places(&x)
		count := len(all)
		slices.Sort(all)
		if len(slices.Compact(all)) != count {
			t.Fatalf("%q: one thing stands in two places", s)
		}
	}
}

// P4: what was handed in may be changed later.
func TestInputIsNotKept(t *testing.T) {
	for _, x := range samples() {
		want, wantErr := tongue.Write(x)
		mine := roomy(x)
		got, err := tongue.Write(mine)
		scribble(&mine)
		if again, againErr := tongue.Write(x); got != want || err != wantErr || again != want || againErr != wantErr {
			t.Fatalf("%q, %v, was %q, %v", got, err, want, wantErr)
		}
	}
}

// P2: the same is answered each time.
func TestSameEachTime(t *testing.T) {
	for _, x := range samples() {
		want, wantErr := tongue.Write(x)
		for range 3 {
			if got, err := tongue.Write(x); got != want || err != wantErr {
				t.Fatalf("%q, %v, was %q, %v", got, err, want, wantErr)
			}
		}
	}
	for _, s := range texts() {
		want, wantErr := tongue.Read(s)
		for range 3 {
			got, err := tongue.Read(s)
			if !same(got, want) || (err == nil) != (wantErr == nil) || placeOf(err) != placeOf(wantErr) {
				t.Fatalf("%q: %+v, %v, was %+v, %v", s, got, err, want, wantErr)
			}
		}
	}
}

// P3: a nil list and an empty one are one thing.
func TestNilAndEmpty(t *testing.T) {
	var emptied func(v reflect.Value)
	emptied = func(v reflect.Value) {
		switch v.Kind() {
		case reflect.Pointer:
			if !v.IsNil() {
				emptied(v.Elem())
			}
		case reflect.Slice:
			if v.IsNil() {
				v.Set(reflect.MakeSlice(v.Type(), 0, 0))
			}
			for i := range v.Len() {
				emptied(v.Index(i))
			}
		case reflect.Struct:
			for i := range v.NumField() {
				emptied(v.Field(i))
			}
		}
	}
	for _, x := range samples() {
		want, wantErr := tongue.Write(x)
		full := roomy(x)
		emptied(reflect.ValueOf(&full))
		if got, err := tongue.Write(full); got != want || err != wantErr {
			t.Fatalf("%q, %v, want %q, %v", got, err, want, wantErr)
		}
	}
}

// P1, P3: no Read panics, whatever it is given; errors are faults within the text, with nothing beside them; what is read is written.
func TestReadNeverPanics(t *testing.T) {
	d := &dice{seed: 23}
	seen := map[error]int{}
	for range 60000 {
		s := d.text()
		x, err := tongue.Read(s)
		if err == nil {
			seen[nil]++
			checkBack(t, s, x)
			continue
		}
		fault, ours := err.(*api.Fault)
		if !ours || fault.At < 0 || fault.At > len(s) || fault.Err != api.ErrSyntax && fault.Err != api.ErrBound || errors.Unwrap(err) != fault.Err {
			t.Fatalf("%q: %v at %d", s, err, placeOf(err))
		}
		checkWrong(t, s, fault.Err, fault.At)
		seen[fault.Err]++
	}
	for _, err := range []error{nil, api.ErrSyntax, api.ErrBound} {
		if seen[err] < 200 {
			t.Errorf("%v: only %d", err, seen[err])
		}
	}
}

// P1, P3: no Write panics, whatever it is given; what it does not refuse is read again.
func TestWriteNeverPanics(t *testing.T) {
	d := &dice{seed: 24}
	seen := map[error]int{}
	for range 20000 {
		x := d.odd()
		text, err := tongue.Write(x)
		seen[err]++
		switch err {
		case nil:
			checkBack(t, text, x)
		case api.ErrSyntax:
			if text != "" {
				t.Fatalf("with an error %q", text)
			}
		default:
			t.Fatalf("%+v: %v", x, err)
		}
	}
	for _, err := range []error{nil, api.ErrSyntax} {
		if seen[err] < 1000 {
			t.Errorf("%v: only %d", err, seen[err])
		}
	}
}

// odd is a Spec of which something may be wrong.
func (d *dice) odd() api.Spec {
	x := d.spec()
	for range d.next(3) {
		d.spoil(&x)
	}
	return x
}

func (d *dice) spoil(x *api.Spec) {
	text := pick(d, "", "-", "skip", "a", "A", "\xff", strings.Repeat("a", 41))
	number := pick(d, 0, -1, 1, 2, 3, 4, 5, 7, 99, math.MaxInt, math.MinInt)
	switch d.next(4) {
	case 0:
		x.Name = text
	case 1:
		x.Pieces = append(x.Pieces, d.piece())
		d.spoilPiece(&x.Pieces[d.next(len(x.Pieces))], text, number)
	case 2:
		x.Ranks = append(x.Ranks, d.rank())
		r := &x.Ranks[d.next(len(x.Ranks))]
		*r = pick(d, api.Rank{Side: number, Names: r.Names}, api.Rank{Side: r.Side}, api.Rank{Side: r.Side, Names: append(r.Names, text)})
	case 3:
		x.Sorts = append(x.Sorts, d.sort())
		d.spoilSort(&x.Sorts[d.next(len(x.Sorts))], text, number)
	}
}

func (d *dice) spoilPiece(p *api.Piece, text string, number int) {
	switch d.next(5) {
	case 0:
		p.Name = text
	case 1:
		p.Mode = text
	case 2:
		p.Push = text
	case 3:
		p.Pattern = nil
	case 4:
		p.Pattern = pick(d, &api.Re{Kind: number}, &api.Re{Kind: api.RRep, Min: number, Max: number, Kids: []*api.Re{p.Pattern}}, cat(p.Pattern, nil), cat(p.Pattern), setOf(api.Range{Lo: number, Hi: 5}))
	}
}

func (d *dice) spoilSort(s *api.Sort, text string, number int) {
	if len(s.Cases) == 0 {
		return
	}
	c := &s.Cases[d.next(len(s.Cases))]
	switch d.next(7) {
	case 0:
		s.Name = text
	case 1:
		s.Type = pick(d, simple(number), lists(2, simple(number)), lists(1, simple(api.List)))
	case 2:
		s.Cases = nil
	case 3:
		c.Symbols = append(c.Symbols, text)
	case 4:
		c.Level = text
	case 5:
		c.Action = nil
	case 6:
		c.Action = pick(d, name(text), row(c.Action, nil), &api.Expr{Kind: number}, num(int64(number)), arg(int64(number)), call(text, c.Action), op(text, c.Action, c.Action), str(text))
	}
}

// text is a text of tokens in any order, most of which begins as one of the tongue.
func (d *dice) text() string {
	var b strings.Builder
	b.WriteString(pick(d, "", "grammar g ", "grammar g tokens x = `a`", "grammar g levels ", "grammar g rules s : int = ", "grammar g rules s : int = { 1 "))
	for range d.next(12) {
		b.WriteString(pick(d, "grammar", "tokens", "levels", "rules", "skip", "pop", "push", "left", "none", "list", "int", "let", "in", "if", "len", "x", "y", strings.Repeat("a", 41), "1", "$1", "$0", "\"", "\"a\"", "`", "`a`", "`(`", "`a{99}`", ";", ";", ":", "|", "{", "}", "(", ")", "[", "]", ",", "=", "+", "-", "<", "%", "#", "\n", "\t", "\r", "\xff", "é", "{ 1 };", "levels", "x=`a`;", "left x;"))
		b.WriteString(pick(d, "", " ", " ", "\n"))
	}
	return b.String()
}
