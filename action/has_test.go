package action_test

import (
	"slices"
	"testing"

	"grammarsmith/action"
	"grammarsmith/api"
)

// isType, fits, join and has go by the words of P100.
func isType(t api.Type) bool {
	switch t.Kind {
	case api.Int, api.Text, api.Node:
		return t.Of == nil
	case api.List:
		return t.Of == nil || isType(*t.Of)
	}
	return false
}

func fits(a, b api.Type) bool {
	if sameType(a, b) {
		return true
	}
	if a.Kind != api.List || b.Kind != api.List {
		return false
	}
	return a.Of == nil || b.Of != nil && fits(*a.Of, *b.Of)
}

func join(a, b api.Type) (api.Type, bool) {
	if fits(b, a) {
		return a, true
	}
	if fits(a, b) {
		return b, true
	}
	if a.Kind != api.List || b.Kind != api.List {
		return api.Type{}, false
	}
	t, joins := join(*a.Of, *b.Of)
	return listOf(t), joins
}

func has(v api.Value, t api.Type) bool {
	if v.Kind != t.Kind {
		return false
	}
	all := func(t api.Type) bool {
		return !slices.ContainsFunc(v.List, func(k api.Value) bool { return !has(k, t) })
	}
	switch v.Kind {
	case api.Int:
		return v.Text == "" && len(v.List) == 0
	case api.Text:
		return v.Num == 0 && len(v.List) == 0
	case api.Node:
		return v.Num == 0 && all(t)
	}
	if v.Num != 0 || v.Text != "" {
		return false
	}
	if t.Of == nil {
		return len(v.List) == 0
	}
	return all(*t.Of)
}

// allTypes are all types with at most so many Lists in one another.
func allTypes(most int) []api.Type {
	out := []api.Type{simple(api.Int), simple(api.Text), simple(api.Node)}
	level := append(slices.Clone(out), bareList())
	for range most {
		next := []api.Type{}
		for _, t := range level {
			next = append(next, listOf(t))
		}
		out = append(out, level[min(len(out), 3):]...)
		level = next
	}
	return append(out, level...)
}

// noTypes are types that are none.
func noTypes() map[string]api.Type {
	number := simple(api.Int)
	round := api.Type{Kind: api.List}
	round.Of = &round
	far := api.Type{Kind: api.List, Of: &api.Type{Kind: api.List}}
	far.Of.Of = &far
	return map[string]api.Type{
		"kind 0": {}, "kind 5": {Kind: 5}, "kind -1": {Kind: -1}, "an Int with Of": {Kind: api.Int, Of: &number}, "a Text with Of": {Kind: api.Text, Of: &number}, "a Node with Of": {Kind: api.Node, Of: &api.Type{Kind: api.Node}},
		"a List of kind 0": listOf(api.Type{}), "a List of kind 9": listOf(api.Type{Kind: 9}), "a List of an Int with Of": listOf(api.Type{Kind: api.Int, Of: &number}), "far inside": lists(50, api.Type{Kind: -3}),
		"a List of itself": round, "a List that lies in itself": far,
	}
}

// values are values of all kinds, right and wrong ones, with values of all kinds in them.
func values() []api.Value {
	flat := []api.Value{
		whole(0), whole(-5), whole(1 << 62), words(""), words("a"), words("\xff"), many(), knot(""), knot("n"), {}, {Kind: 5}, {Kind: -1}, {Kind: 5, Num: 1},
		{Kind: api.Int, Text: "x"}, {Kind: api.Int, List: []api.Value{whole(1)}}, {Kind: api.Int, List: []api.Value{}},
		{Kind: api.Text, Num: 1}, {Kind: api.Text, Text: "a", List: []api.Value{words("")}}, {Kind: api.Text, Text: "a", List: []api.Value{}},
		{Kind: api.List, Num: 1}, {Kind: api.List, Text: "x"}, {Kind: api.List, List: []api.Value{}},
		{Kind: api.Node, Num: 1}, {Kind: api.Node, Text: "n", List: []api.Value{}},
	}
	out := slices.Clone(flat)
	wrap := func(a, b api.Value) []api.Value {
		return []api.Value{many(a), many(a, b), knot("t", a), knot("t", a, b), {Kind: api.List, Num: 2, List: []api.Value{a}}, {Kind: api.List, Text: "x", List: []api.Value{a}}, {Kind: api.Node, Num: 2, List: []api.Value{a}}}
	}
	var inner []api.Value
	for _, a := range flat {
		for _, b := range flat {
			inner = append(inner, wrap(a, b)...)
		}
	}
	out = append(out, inner...)
	for i, a := range inner {
		out = append(out, wrap(a, flat[i%len(flat)])...)
		out = append(out, wrap(a, inner[(i*7+3)%len(inner)])...)
		out = append(out, many(many(a), many()), many(many(many(a)), many(many())))
	}
	return out
}

// P100: Has by the chapter's words.
func TestHasByTheWords(t *testing.T) {
	types, met := allTypes(4), 0
	for _, v := range values() {
		for _, tp := range types {
			want := has(v, tp)
			if got := action.Has(v, tp); got != want {
				t.Fatalf("Has(%+v, %s) = %v", v, showType(tp), got)
			}
			if want {
				met++
			}
		}
		for what, tp := range noTypes() {
			if action.Has(v, tp) {
				t.Fatalf("Has(%+v, %s) is true", v, what)
			}
		}
	}
	if met < 1000 {
		t.Errorf("only %d values are of a type", met)
	}
}

// P100: ordinary values, made by hand.
func TestHasByHand(t *testing.T) {
	number, text, node := simple(api.Int), simple(api.Text), simple(api.Node)
	for _, c := range []struct {
		v    api.Value
		t    api.Type
		want bool
	}{
		{whole(5), number, true}, {whole(5), text, false}, {whole(5), listOf(number), false}, {words("a"), text, true}, {words("a"), node, false}, {knot("a"), node, true}, {knot("a"), text, false},
		{many(), bareList(), true}, {many(), listOf(number), true}, {many(), lists(5, text), true}, {many(), number, false}, {many(whole(1)), bareList(), false},
		{many(whole(1), whole(2)), listOf(number), true}, {many(whole(1), whole(2)), listOf(text), false}, {many(whole(1), words("")), listOf(number), false}, {many(whole(1), words("")), listOf(text), false},
		{many(many(), many(whole(1))), lists(2, number), true}, {many(many(), many(whole(1))), lists(2, text), false}, {many(many(), many(whole(1))), listOf(bareList()), false}, {many(many(), many()), listOf(bareList()), true}, {many(many(), many()), lists(2, node), true}, {many(many(), many()), bareList(), false}, {many(many(many())), listOf(bareList()), false},
		{many(many(whole(1)), many(words("a"))), lists(2, number), false}, {many(many(many()), many()), lists(2, bareList()), true}, {many(many(), whole(1)), listOf(number), false}, {many(many(), whole(1)), lists(2, number), false},
		{knot("a", knot("b"), knot("c", knot("d"))), node, true}, {knot("a", whole(1)), node, false}, {knot("a", knot("b"), many()), node, false}, {knot("a", knot("b", knot("c", words("")))), node, false}, {many(knot("a", knot("b"))), listOf(node), true}, {many(knot("a", words("b"))), listOf(node), false},
		{api.Value{}, number, false}, {api.Value{}, api.Type{}, false}, {many(), api.Type{Kind: api.List, Of: &api.Type{}}, false},
	} {
		if got := action.Has(c.v, c.t); got != c.want {
			t.Errorf("Has(%+v, %s) = %v", c.v, showType(c.t), got)
		}
	}
}

// P100: the values of a list whose type fits another are of that, too; where types have a join, so are those of both.
func TestHasOfWhatFits(t *testing.T) {
	types := allTypes(4)
	joins := 0
	for _, v := range values()[:1500] {
		for _, a := range types {
			if !action.Has(v, a) {
				continue
			}
			for _, b := range types {
				if fits(a, b) && !action.Has(v, b) {
					t.Fatalf("%+v is a %s, but no %s", v, showType(a), showType(b))
				}
				if c, is := join(a, b); is && !action.Has(v, c) {
					t.Fatalf("%+v is a %s, but no %s", v, showType(a), showType(c))
				} else if is {
					joins++
				}
			}
		}
	}
	if joins < 1000 {
		t.Errorf("only %d joins", joins)
	}
}

// P1: a list that stands in many places, one that lies in itself, and what is nested as deep as may be.
func TestHasEnds(t *testing.T) {
	node, nodes := knot("n"), many(many())
	for range 80 {
		node = knot("n", node, node)
		nodes = many(nodes, nodes)
	}
	if !action.Has(node, simple(api.Node)) || !action.Has(nodes, lists(81, bareList())) || action.Has(nodes, lists(80, bareList())) {
		t.Error("what doubles")
	}
	round := []api.Value{knot("n"), {}}
	round[1] = api.Value{Kind: api.Node, List: round}
	action.Has(round[1], simple(api.Node))
	within := []api.Value{many(), {}}
	within[1] = api.Value{Kind: api.List, List: within}
	if action.Has(within[1], lists(30, simple(api.Int))) {
		t.Error("a list of itself ends nowhere")
	}
	const deep = 1 << 16
	v, tp, n := whole(1), simple(api.Int), knot("n")
	for range deep {
		v, tp, n = many(v), listOf(tp), knot("n", n)
	}
	if !action.Has(v, tp) || action.Has(v, *tp.Of) || action.Has(v, listOf(tp)) || !action.Has(n, simple(api.Node)) {
		t.Error("what is deep")
	}
	if !action.Has(many(slices.Repeat([]api.Value{whole(3)}, 1<<20)...), listOf(simple(api.Int))) {
		t.Error("what is long")
	}
}
