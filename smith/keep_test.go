package smith_test

import (
	"fmt"
	"math"
	"reflect"
	"slices"
	"strings"
	"testing"

	"grammarsmith/api"
	"grammarsmith/plain"
	"grammarsmith/smith"
	"grammarsmith/tongue"
)

// roomy is a thing of package api in memory of its own, with room behind the ends of all lists, where what stands there shows who writes there.
func roomy[T any](x T) T {
	var out T
	spread(reflect.ValueOf(&out).Elem(), reflect.ValueOf(x))
	return out
}

func spread(to, from reflect.Value) {
	switch from.Kind() {
	case reflect.Pointer:
		if !from.IsNil() {
			to.Set(reflect.New(from.Type().Elem()))
			spread(to.Elem(), from.Elem())
		}
	case reflect.Slice:
		to.Set(reflect.MakeSlice(from.Type(), from.Len()+2, from.Len()+2).Slice(0, from.Len()))
		for i := range from.Len() {
			spread(to.Index(i), from.Index(i))
		}
	case reflect.Struct:
		for i := range from.NumField() {
			spread(to.Field(i), from.Field(i))
		}
	default:
		to.Set(from)
	}
}

// through goes through all lists of a value, up to the ends of their room, and hands each thing that may be written to a function.
func through(v reflect.Value, each func(v reflect.Value)) {
	switch v.Kind() {
	case reflect.Pointer:
		if !v.IsNil() {
			through(v.Elem(), each)
		}
	case reflect.Slice:
		for i := range v.Cap() {
			through(v.Slice(0, v.Cap()).Index(i), each)
		}
	case reflect.Struct:
		for i := range v.NumField() {
			through(v.Field(i), each)
		}
	default:
		each(v)
	}
}

// scribble writes into all that lies in a thing.
func scribble[T any](x *T) {
	through(reflect.ValueOf(x), func(v reflect.Value) {
		switch v.Kind() {
		case reflect.String:
			v.SetString("99")
		case reflect.Bool:
			v.SetBool(!v.Bool())
		default:
			v.SetInt(99)
		}
	})
}

// told is all that lies in a thing, with what stands behind the ends of its lists.
func told[T any](x T) []any {
	var out []any
	through(reflect.ValueOf(&x), func(v reflect.Value) { out = append(out, v.Interface()) })
	return out
}

// places tells where all that lies in a thing lies.
func places[T any](x *T) []uintptr {
	var out []uintptr
	through(reflect.ValueOf(x), func(v reflect.Value) { out = append(out, v.Addr().Pointer()) })
	return out
}

// checkApart asks that of two things, and within each, nothing lies in two places.
func checkApart[T, U any](t *testing.T, what string, a T, b U) {
	t.Helper()
	all := append(places(&a), places(&b)...)
	count := len(all)
	slices.Sort(all)
	if len(slices.Compact(all)) != count {
		t.Fatalf("%s: one thing stands in two places", what)
	}
}

// samples are texts of which tools are made, each with texts that they read.
func samples() map[string][]string {
	return map[string][]string{
		sums:         {"1 + 2 * 3", "1", "1 + 2 + 3 + 4", "1 +", "?"},
		smith.Self(): {sums, "grammar g", everything, "grammar", "grammar g rules s : int = { ? };"},
		"grammar g tokens a = `a` push m; tokens : m b = `b|[^a]` pop; levels left a; right b; rules s : list node = { [] } | s a t { $1 ++ [$3, $3] }; t : node = b { node($1, [node(\"k\", [])]) };": {"", "ab", "abab", "aba", "aab", "a\xff"},
		"grammar g rules s : list list int = { let x = [1, 2] in [x, x, [], x] };": {"", "a"},
	}
}

// P4: what is handed in stays as it is, also behind the ends of its lists; and it is not kept.
func TestInputStays(t *testing.T) {
	d := &dice{seed: 31}
	var specs []api.Spec
	for s := range samples() {
		x, err := tongue.Read(s)
		if err != nil {
			t.Fatal(err)
		}
		specs = append(specs, x)
	}
	for range 3000 {
		specs = append(specs, d.small(), d.odd())
	}
	for _, x := range specs {
		want, wantErr := smith.From(x)
		mine := roomy(x)
		ahead := told(mine)
		got, err := smith.From(mine)
		if !slices.Equal(told(mine), ahead) {
			t.Fatalf("has changed: %+v", mine)
		}
		scribble(&mine)
		if (err == nil) != (wantErr == nil) || placeOf(err) != placeOf(wantErr) {
			t.Fatalf("%v, was %v", err, wantErr)
		}
		if err == nil {
			checkSameTools(t, got, want, samples()[sums])
		}
	}
}

// checkSameTools asks that two tools are made of the same, and read texts alike.
func checkSameTools(t *testing.T, a, b *smith.Tool, texts []string) {
	t.Helper()
	if !same(a.Grammar(), b.Grammar()) || !same(a.Table(), b.Table()) || !same(a.Rules(), b.Rules()) {
		t.Fatal("two tools of the same are made of others")
	}
	for _, s := range texts {
		v, err := a.Run(s)
		w, otherErr := b.Run(s)
		code, at := plain.Code(err)
		if otherCode, otherAt := plain.Code(otherErr); !same(v, w) || code != otherCode || at != otherAt {
			t.Fatalf("%q: %+v, %v, was %+v, %v", s, w, otherErr, v, err)
		}
		tree, _ := a.Tree(s)
		if other, _ := b.Tree(s); !same(tree, other) {
			t.Fatalf("%q: another tree", s)
		}
	}
}

// P4: what is answered is new: writing into it changes nothing that is answered elsewhere, and no two lists share memory.
func TestAnswersAreNew(t *testing.T) {
	for s, texts := range samples() {
		x, fresh := mustNew(t, s), mustNew(t, s)
		checkApart(t, "Grammar", x.Grammar(), x.Grammar())
		checkApart(t, "Table", x.Table(), x.Table())
		checkApart(t, "Rules", x.Rules(), x.Rules())
		checkApart(t, "Rules of two", x.Rules(), fresh.Rules())
		g, tb, r := x.Grammar(), x.Table(), x.Rules()
		scribble(&g)
		scribble(&tb)
		scribble(&r)
		for _, s := range texts {
			v, _ := x.Run(s)
			w, _ := x.Run(s)
			checkApart(t, s, v, w)
			tree, _ := x.Tree(s)
			other, _ := x.Tree(s)
			checkApart(t, s, tree, other)
			scribble(&v)
			scribble(&tree)
		}
		checkSameTools(t, x, fresh, texts)
	}
}

// P4: no two lists of what is made share memory with the Spec of which a tool is made, nor does what Said tells with the value.
func TestAnswersAreApartFromWhatIsGiven(t *testing.T) {
	self := selfTool(t)
	for s := range samples() {
		said, err := tongue.Read(s)
		if err != nil {
			t.Fatal(err)
		}
		x, err := smith.From(said)
		if err != nil {
			t.Fatal(err)
		}
		checkApart(t, "Rules", x.Rules(), said)
		v := roomy(mustRun(t, self, s))
		ahead := told(v)
		got, _ := smith.Said(v)
		again, _ := smith.Said(v)
		checkApart(t, "Said", got, v)
		checkApart(t, "Said", got, again)
		scribble(&again)
		if !slices.Equal(told(v), ahead) || !same(got, said) {
			t.Fatalf("%q: has changed", s)
		}
		scribble(&v)
		if !same(got, said) {
			t.Fatalf("%q: has become %+v", s, got)
		}
	}
}

// A Spec may hold one pattern, one expression or one list in many places: what is made of it holds each on its own.
func TestSharedInput(t *testing.T) {
	a, e := one('a'), num(1)
	twice := cat(a, a)
	names := []string{"p", "q"}
	x := api.Spec{Name: "g", Pieces: []api.Piece{{Name: "p", Pattern: twice, Push: "-"}, {Name: "q", Pattern: cat(twice, a), Push: "-"}}, Sorts: []api.Sort{{Name: "s", Type: simple(api.Int), Cases: []api.Case{{Symbols: names, Action: op("+", e, e)}, {Symbols: names[:1], Action: e}}}}}
	tool, err := smith.From(x)
	if err != nil {
		t.Fatal(err)
	}
	checkApart(t, "Rules", tool.Rules(), tool.Grammar())
	scribble(a)
	scribble(e)
	checkRun(t, tool, "aa", whole(1))
	checkUnread(t, tool, "aaa", api.ErrEnd, 0)
}

// P3: a nil list and an empty one are one thing.
func TestNilAndEmpty(t *testing.T) {
	d := &dice{seed: 32}
	for range 5000 {
		x := d.small()
		want, wantErr := smith.From(x)
		got, err := smith.From(roomy(x)) // in which no list is nil
		code, at := plain.Code(err)
		if wantCode, wantAt := plain.Code(wantErr); code != wantCode || at != wantAt {
			t.Fatalf("%v, was %v", err, wantErr)
		}
		if err == nil {
			checkSameTools(t, got, want, []string{"", "a", "b", "ab"})
		}
	}
}

// odd is a Spec of which something may be wrong, also what no text can say.
func (d *dice) odd() api.Spec {
	x := d.spec()
	if d.happens() {
		x = d.small()
	}
	for range d.next(3) {
		d.spoil(&x)
	}
	return x
}

func (d *dice) spoil(x *api.Spec) {
	text := pick(d, "", "-", "skip", "a", "A", "\xff", strings.Repeat("a", 41))
	number := pick(d, 0, -1, 1, 2, 3, 4, 5, 7, 99, math.MaxInt, math.MinInt)
	switch d.next(4) {
	case 0:
		x.Name = text
	case 1:
		x.Pieces = append(x.Pieces, d.piece())
		d.spoilPiece(&x.Pieces[d.next(len(x.Pieces))], text, number)
	case 2:
		x.Ranks = append(x.Ranks, d.rank())
		r := &x.Ranks[d.next(len(x.Ranks))]
		*r = pick(d, api.Rank{Side: number, Names: r.Names}, api.Rank{Side: r.Side}, api.Rank{Side: r.Side, Names: append(r.Names, text)})
	case 3:
		x.Sorts = append(x.Sorts, d.sort())
		d.spoilSort(&x.Sorts[d.next(len(x.Sorts))], text, number)
	}
}

func (d *dice) spoilPiece(p *api.Piece, text string, number int) {
	switch d.next(5) {
	case 0:
		p.Name = text
	case 1:
		p.Mode = text
	case 2:
		p.Push = text
	case 3:
		p.Pattern = nil
	case 4:
		p.Pattern = pick(d, &api.Re{Kind: number}, &api.Re{Kind: api.RRep, Min: number, Max: number, Kids: []*api.Re{p.Pattern}}, cat(p.Pattern, nil), cat(p.Pattern), setOf(api.Range{Lo: number, Hi: 5}))
	}
}

func (d *dice) spoilSort(s *api.Sort, text string, number int) {
	if len(s.Cases) == 0 {
		return
	}
	c := &s.Cases[d.next(len(s.Cases))]
	switch d.next(7) {
	case 0:
		s.Name = text
	case 1:
		s.Type = pick(d, simple(number), lists(2, simple(number)), lists(1, simple(api.List)))
	case 2:
		s.Cases = nil
	case 3:
		c.Symbols = append(c.Symbols, text)
	case 4:
		c.Level = text
	case 5:
		c.Action = nil
	case 6:
		c.Action = pick(d, name(text), row(c.Action, nil), &api.Expr{Kind: number}, num(int64(number)), arg(int64(number)), call(text, c.Action), op(text, c.Action, c.Action), str(text))
	}
}

// P1, P3: no From panics, whatever it is given; there is a tool, or a fault. No Run does, whatever the text is.
func TestNothingPanics(t *testing.T) {
	d := &dice{seed: 33}
	tools := []*smith.Tool{selfTool(t), mustNew(t, sums)}
	for range 30000 {
		x, err := smith.From(d.odd())
		if _, ours := err.(*api.Fault); (x == nil) == (err == nil) || err != nil && !ours {
			t.Fatalf("%v, %v", x, err)
		}
		if x != nil && len(tools) < 50 {
			tools = append(tools, x)
		}
	}
	if len(tools) < 20 {
		t.Errorf("only %d tools", len(tools))
	}
	for _, x := range tools {
		for range 200 {
			var b []byte
			for range d.next(12) {
				b = append(b, pick(d, byte('a'), 'b', 'c', '1', '+', ' ', '`', '"', '#', '\n', 0xff, 0xc3, 0xa9, byte(d.next(256))))
			}
			v, err := x.Run(string(b))
			tree, treeErr := x.Tree(string(b))
			fault, ours := err.(*api.Fault)
			if (err == nil) != (treeErr == nil) || err == nil && tree == nil || err != nil && (!ours || fault.At < 0 || fault.At > len(b) || tree != nil || !same(v, api.Value{})) {
				t.Fatalf("%q: %+v, %v, %v", b, v, err, treeErr)
			}
		}
	}
}

// P1: patterns and types that go on and on in themselves are seen to be none.
func TestFromOfEndlessParts(t *testing.T) {
	p, e := one('a'), num(1)
	for range 100 {
		p, e = cat(p, p), op("+", e, e)
	}
	round := &api.Type{Kind: api.List}
	round.Of = round
	for _, x := range []api.Spec{
		{Name: "g", Pieces: []api.Piece{{Name: "p", Pattern: p, Push: "-"}}, Sorts: []api.Sort{{Name: "s", Type: simple(api.Int), Cases: []api.Case{{Action: num(1)}}}}},
		{Name: "g", Sorts: []api.Sort{{Name: "s", Type: simple(api.Int), Cases: []api.Case{{Action: e}}}}},
		{Name: "g", Sorts: []api.Sort{{Name: "s", Type: *round, Cases: []api.Case{{Action: row()}, {Symbols: []string{"s"}, Action: arg(1)}}}}},
		{Name: "g", Sorts: make([]api.Sort, 5)},
		{Pieces: make([]api.Piece, 1), Ranks: make([]api.Rank, 60), Sorts: make([]api.Sort, 1)},
		{Pieces: make([]api.Piece, 300), Sorts: []api.Sort{{Cases: make([]api.Case, 500)}}},
		{Sorts: []api.Sort{{Cases: make([]api.Case, 3)}}},
	} {
		if tool, err := smith.From(x); tool != nil || err == nil {
			t.Errorf("%.100s: there is a tool", fmt.Sprint(x))
		}
	}
}

// P1, and the limits: values that double again and again, and trees that are deep.
func TestRunOfMuch(t *testing.T) {
	x := mustNew(t, "grammar g tokens a = `a`; b = `b`; rules s : list text = { [] } | s a { $1 ++ $1 ++ [$2] } | s b { $1 };")
	for _, count := range []int{5, 30, 200} {
		if _, err := x.Run(strings.Repeat("a", count)); err != nil {
			t.Errorf("%d: %v", count, err)
		}
	}
	deep := strings.Repeat("b", 300000)
	checkRun(t, x, "a"+deep, many(words("a")))
	y := mustNew(t, "grammar g tokens a = `a`; b = `b`; rules s : int = a s b { $2 + 1 } | { 0 };")
	checkRun(t, y, strings.Repeat("a", 200000)+strings.Repeat("b", 200000), whole(200000))
	checkUnread(t, y, strings.Repeat("a", 200000)+strings.Repeat("b", 200001), api.ErrEnd, 400000)
}
