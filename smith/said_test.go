package smith_test

import (
	"fmt"
	"reflect"
	"strings"
	"testing"

	"grammarsmith/api"
	"grammarsmith/smith"
	"grammarsmith/tongue"
)

// checkUnsaid asks that a value says nothing.
func checkUnsaid(t *testing.T, v api.Value) {
	t.Helper()
	if x, said := smith.Said(v); said || !reflect.DeepEqual(x, api.Spec{}) {
		t.Errorf("%.300s says %+v", fmt.Sprint(v), x)
	}
}

func mustRun(t *testing.T, x *smith.Tool, s string) api.Value {
	t.Helper()
	v, err := x.Run(s)
	if err != nil {
		t.Fatalf("Run(%.300q): %v at %d", s, err, placeOf(err))
	}
	return v
}

// P123: values that are none of the tool's say nothing.
func TestSaidOfOtherValues(t *testing.T) {
	for _, v := range []api.Value{{}, whole(0), whole(1), words(""), words("spec"), words(sums), many(), many(knot("spec")), knot(""), knot("spec"), knot("g"), knot("row"), knot("spec", knot("g")), knot("spec", knot("row"), knot("g")), knot("grammar", knot("g"), knot("row")), {Kind: 5}, {Kind: -1, Text: "spec"}, {Kind: api.Node, Num: 1}, knot("spec", whole(1), words("g")), knot("spec", many(), many())} {
		checkUnsaid(t, v)
	}
	x := mustNew(t, sums)
	checkUnsaid(t, mustRun(t, x, "1 + 2"))
}

// everything is a text with all that a text may have.
const everything = "grammar g tokens a = `a` skip pop push m; b = `[b]+`; tokens : m c = `c`; d = `d` pop; levels left b; none c d; rules s : int = b { 1 } | b c % d { let x = 2 in if x < $1 then -len(\"y\") else at([3, x], 0, --4) }; u : list list node = { [] } | s { [[node(\"z\", kids($1))]] };"

// replaced is a value in which all nodes of a tag have another one.
func replaced(v api.Value, old, tag string) api.Value {
	if v.Text == old {
		v.Text = tag
	}
	var kids []api.Value
	for _, k := range v.List {
		kids = append(kids, replaced(k, old, tag))
	}
	v.List = kids
	return v
}

// P123: what would be a value of the tool, but for a word in it that could not stand there.
func TestSaidOfWrongWords(t *testing.T) {
	v := mustRun(t, selfTool(t), everything)
	if x, said := smith.Said(v); !said || x.Name != "g" {
		t.Fatal("not all can be said")
	}
	for old, l := range map[string][]string{
		"g":       {"", "-", "A", "grammar", "len", "let", "1", " g", "g ", "g;", strings.Repeat("a", 41), "\xff"},
		"m":       {"", "-", "skip", "a b"},
		"a":       {"", "-", "pop"},
		"b":       {"", "int", "$1"},
		"x":       {"", "in", "rules"},
		"`[b]+`":  {"", "`", "[b]+", "`[b]+", "[b]+`", "`(`", "`a{51}`", "`[b-a]`", "``` "},
		"left":    {"", "up", "skip", "Left"},
		"node":    {"list", "", "nodes"},
		"1":       {"01", "9223372036854775808", "-1", "1+1", " 1", "", "[]", "(1)", "let", "`a`"},
		"$1":      {"$0", "$21", "$", "$01", "$1 "},
		"\"y\"":   {"\"", "\"y", "\"\\q\"", "\"\n\"", "\"y\" ", "\"" + strings.Repeat("y", 201) + "\""},
		"<":       {"", ">", "=", "let", "+ "},
		"at":      {"len", "", "at(", "kids", "int", "s"},
		"let":     {"if", "operation", "call", "row", ""},
		"if":      {"let", "list", "negated", "row", ""},
		"tokens":  {"levels", "rules", "token", ""},
		"levels":  {"tokens", "rules", ""},
		"rules":   {"tokens", "levels", ""},
		"skip":    {"push", "skips", "", "row"},
		"push":    {"pop", "skip", "", "pushes"},
		"row":     {"", "rows", "spec"},
		"spec":    {"", "grammar"},
		"piece":   {"", "sort"},
		"sort":    {"", "piece"},
		"case":    {"", "row"},
		"leaf":    {"", "list", "call"},
		"list":    {"leaf", "row", "call"},
		"negated": {"leaf", "operation", "row"},
		"call":    {"operation", "list", "leaf"},
	} {
		if sameValue(replaced(v, old, "other"), v) {
			t.Errorf("%q does not stand in it", old)
		}
		for _, tag := range l {
			checkUnsaid(t, replaced(v, old, tag))
		}
	}
}

// P123: what would be a value of the tool, but for a second mode or level beside the first one.
func TestSaidOfTooMany(t *testing.T) {
	for _, s := range []string{"grammar g tokens : m", "grammar g tokens : m a = `a`;", "grammar g rules s : int = % a { 1 };", "grammar g tokens a = `a` skip;"} {
		v := mustRun(t, selfTool(t), s)
		if _, said := smith.Said(v); !said {
			t.Fatalf("%q is not said", s)
		}
		for _, k := range spots(&v) {
			if l := k.List; k.Text != "piece" && len(l) > 0 {
				k.List = append(l[:len(l):len(l)], l[len(l)-1])
				checkUnsaid(t, v)
				k.List = l
			}
		}
	}
}

// spots are the values in a value, itself too, in memory that may be written.
func spots(v *api.Value) []*api.Value {
	out := []*api.Value{v}
	for i := range v.List {
		out = append(out, spots(&v.List[i])...)
	}
	return out
}

// bend changes something in a value.
func (d *dice) bend(v *api.Value) {
	all := spots(v)
	at, other := all[d.next(len(all))], *all[d.next(len(all))]
	switch d.next(7) {
	case 0:
		at.Text = pick(d, other.Text, "", "row", "a", "\xff")
	case 1:
		at.Kind = d.next(6)
	case 2:
		at.Num = int64(d.next(3))
	case 3:
		at.List = nil
	case 4:
		at.List = append(at.List[:len(at.List):len(at.List)], replaced(other, "", ""))
	case 5:
		*at = replaced(other, "", "")
	case 6:
		if n := len(at.List); n > 0 {
			i, j := d.next(n), d.next(n)
			at.List[i], at.List[j] = at.List[j], at.List[i]
		}
	}
}

// P1, P123: whatever is handed in, Said does not panic; what it tells can be said, and nothing else.
func TestSaidOfBentValues(t *testing.T) {
	x, d := selfTool(t), &dice{seed: 21}
	said := 0
	for i := range 4000 {
		s := everything
		if i%2 == 0 {
			s = joined(d, d.tokensOf(d.spec()))
		}
		v := mustRun(t, x, s)
		for range 1 + d.next(3) {
			d.bend(&v)
		}
		got, is := smith.Said(v)
		if !is {
			if !reflect.DeepEqual(got, api.Spec{}) {
				t.Fatalf("nothing is said, and %+v", got)
			}
			continue
		}
		said++
		if text, err := tongue.Write(got); err == nil {
			again, err := tongue.Read(text)
			if err != nil || !same(again, got) {
				t.Fatalf("%q: %v at %d", text, err, placeOf(err))
			}
		} else if err != api.ErrBound {
			t.Fatalf("%+v: %v", got, err)
		}
	}
	if said < 200 {
		t.Errorf("only %d were said", said)
	}
}

// P1: a value that lies in itself, or doubles again and again, or is deep, comes to an end.
func TestSaidOfEndlessValues(t *testing.T) {
	round := make([]api.Value, 2)
	round[0], round[1] = knot("row", round...), knot("g")
	checkUnsaid(t, knot("spec", knot("g"), round[0]))
	checkUnsaid(t, round[0])
	doubled, deep, chain := knot("row"), knot("leaf", knot("1")), knot("row")
	for range 100 {
		doubled = knot("row", doubled, doubled)
	}
	for range 200000 {
		deep, chain = knot("negated", knot("row"), deep), knot("row", chain, knot("rules", knot("row")))
	}
	checkUnsaid(t, knot("spec", knot("g"), doubled))
	sort := knot("sort", knot("s"), knot("row"), knot("int"), knot("row", knot("case", knot("row"), deep)))
	checkUnsaid(t, knot("spec", knot("g"), knot("row", knot("rules", knot("row", sort)))))
	if x, said := smith.Said(knot("spec", knot("g"), chain)); !said || !same(x, api.Spec{Name: "g"}) {
		t.Errorf("%v, %+v", said, x)
	}
}
