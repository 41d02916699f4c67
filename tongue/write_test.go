package tongue_test

import (
	"slices"
	"strings"
	"testing"

	"grammarsmith/action"
	"grammarsmith/api"
	"grammarsmith/pattern"
	"grammarsmith/tongue"
)

// P112: what is written is read again as the same.
func TestWriteOfManySpecs(t *testing.T) {
	d := &dice{seed: 11}
	for range 8000 {
		checkBack(t, "mixed", d.spec())
	}
}

func TestWriteOfAll(t *testing.T) {
	checkBack(t, "all", specOfAll())
	checkBack(t, "nothing but a name", api.Spec{Name: "g"})
	checkBack(t, "the longest name", api.Spec{Name: long})
}

// The text is one for people, too.
func TestWriteOfAPlainText(t *testing.T) {
	want := "grammar g\n" +
		"tokens : m\n  x = `a` skip pop push n;\n  y = `b`;\n" +
		"levels\n  left x y;\n  none x;\n" +
		"rules\n" +
		"  s : list int\n    = x y % x { let v = [1, $2] in if v == [] then len(\"t\") else -3 ++ v }\n    | { 7 % 2 < 5 / 4 * 3 + 2 - 1 };\n" +
		"  u : node\n    = s { node(\"n\", []) };\n"
	if got := checkBack(t, "all", specOfAll()); got != want {
		t.Errorf("%s\nwant\n%s", got, want)
	}
}

// P112: pieces of several modes in any order, with all that may follow them.
func TestWriteOfPieces(t *testing.T) {
	modes := []string{"", "m", "n"}
	for _, i := range modes {
		for _, j := range modes {
			for _, k := range modes {
				x := api.Spec{Name: "g"}
				for n, mode := range []string{i, j, k, i} {
					x.Pieces = append(x.Pieces, api.Piece{Name: "x", Mode: mode, Pattern: a, Skip: n == 0, Pop: n == 1, Push: []string{"-", "m", "-", "q"}[n]})
				}
				checkBack(t, "modes", x)
			}
		}
	}
	for turns := range 8 {
		p := api.Piece{Name: "x", Pattern: b, Skip: turns&1 != 0, Pop: turns&2 != 0, Push: []string{"-", "m"}[turns>>2]}
		checkBack(t, "turns", api.Spec{Name: "g", Pieces: []api.Piece{p, p}})
	}
}

// P112: patterns of all kinds, also those for which the sign around patterns stands, and each point.
func TestWriteOfPatterns(t *testing.T) {
	for _, s := range []string{"\\u{60}", "[\\u{60}]", "[^\\u{60}]", "[_-\\u{60}]", "[\\u{60}-a]", "[\\u{5e}\\u{60}b]", "~\\u{60}", "\\u{60}*|a", "\\u{60}{2,3}&.", "", "()", "|", "[]", "[^]", ".", "a|b&~c", "(a|b)(c&d)e{3,}", "(a|(b|c))", "((ab)c)", "\\|\\&\\*\\+\\?\\{\\}\\~\\(\\)\\[\\]\\.\\\\", "[\\[\\]\\-\\^\\\\]", "#", "\"", ";", "\\n\\r\\t\\ ", "\n", "é𝄞", "\\u{d800}\\u{dfff}\\u{10ffff}\\u{0}"} {
		p, err := pattern.Read(s)
		if err != nil {
			t.Fatal(s, err)
		}
		checkBack(t, s, cutBy(p))
	}
	for p := 0; p < 0x3000; p++ {
		x := cutBy(cat(one(p), setOf(api.Range{Lo: p, Hi: p + 7})))
		checkBack(t, "a point", x)
	}
}

// P112: expressions of all kinds.
func TestWriteOfExpressions(t *testing.T) {
	d := &dice{seed: 12}
	for range 4000 {
		if e := d.expr(5); action.Ok(e) {
			checkBack(t, "an expression", within(e))
		}
	}
	for _, e := range []*api.Expr{row(times(num(1), api.MaxExpr-1)...), str("a\tb\rc\x00`#\"\\\n{};"), let(long, num(1), name(long)), op("==", op("==", num(1), num(2)), op("<", num(1), num(2))), neg(let("x", num(1), name("x"))), name("skips")} {
		checkBack(t, "an expression", within(e))
	}
}

func TestWriteOfTypesAndRanks(t *testing.T) {
	for _, kind := range []int{api.Int, api.Text, api.Node} {
		for _, n := range []int{0, 1, 2, 5, 1000, 13000} {
			checkBack(t, "a type", api.Spec{Name: "g", Sorts: []api.Sort{sort("s", lists(n, simple(kind)), makes(num(1)))}})
		}
	}
	for _, side := range []int{api.ToLeft, api.ToRight, api.ToNone} {
		checkBack(t, "ranks", api.Spec{Name: "g", Ranks: []api.Rank{rank(side, "x"), rank(side, "y", "x", "y"), rank(api.ToLeft, long, long)}})
	}
}

// spoiled is a Spec that could be said but for one change.
func spoiled(change func(x *api.Spec)) api.Spec {
	x := specOfAll()
	change(&x)
	return x
}

// noNames are texts that are no names.
func noNames() []string {
	return append([]string{"", "-", "A", "Ab", "aB", "_", "_a", "1", "1a", " a", "a ", "a b", "a-b", "a\n", "é", "aé", "\xff", "a\xff", "a;", "`", "\"a\"", "$1", "#", "a#", "==", strings.Repeat("a", 41), strings.Repeat("a", 70000)}, keywords...)
}

// P112: each name that is none is refused.
func TestWriteOfWhatIsNoName(t *testing.T) {
	for _, s := range noNames() {
		for what, x := range map[string]api.Spec{
			"name":        spoiled(func(x *api.Spec) { x.Name = s }),
			"piece":       spoiled(func(x *api.Spec) { x.Pieces[0].Name = s }),
			"later piece": spoiled(func(x *api.Spec) { x.Pieces[1].Name = s }),
			"rank":        spoiled(func(x *api.Spec) { x.Ranks[0].Names[0] = s }),
			"later rank":  spoiled(func(x *api.Spec) { x.Ranks[0].Names[1] = s }),
			"sort":        spoiled(func(x *api.Spec) { x.Sorts[1].Name = s }),
			"symbol":      spoiled(func(x *api.Spec) { x.Sorts[0].Cases[0].Symbols[1] = s }),
			"named":       spoiled(func(x *api.Spec) { x.Sorts[0].Cases[1].Action = name(s) }),
			"let":         spoiled(func(x *api.Spec) { x.Sorts[0].Cases[1].Action = let(s, num(1), num(2)) }),
			"far inside":  spoiled(func(x *api.Spec) { x.Sorts[1].Cases[0].Action = row(num(1), neg(let("x", name(s), num(1)))) }),
			"in a body":   spoiled(func(x *api.Spec) { x.Sorts[1].Cases[0].Action = let("x", num(1), cond(num(1), num(2), name(s))) }),
		} {
			checkRefused(t, what+" "+s, x, api.ErrSyntax)
		}
		if s != "" {
			checkRefused(t, "mode "+s, spoiled(func(x *api.Spec) { x.Pieces[1].Mode = s }), api.ErrSyntax)
			checkRefused(t, "level "+s, spoiled(func(x *api.Spec) { x.Sorts[0].Cases[0].Level = s }), api.ErrSyntax)
		}
		if s != "-" {
			checkRefused(t, "push "+s, spoiled(func(x *api.Spec) { x.Pieces[1].Push = s }), api.ErrSyntax)
		}
	}
}

// P112: patterns and expressions that are not valid, or nil.
func TestWriteOfWhatIsNotValid(t *testing.T) {
	for what, p := range map[string]*api.Re{
		"nil": nil, "zero": {}, "a row of one": cat(a), "a nil in a row": cat(a, nil), "no canonical set": setOf(api.Range{Lo: 2, Hi: 1}), "a set with Min": {Kind: api.RSet, Min: 1}, "times with Max 0": {Kind: api.RRep, Kids: []*api.Re{a}}, "too heavy": cat(slices.Repeat([]*api.Re{a}, api.MaxWeight)...), "kind 7": {Kind: 7},
	} {
		checkRefused(t, what, cutBy(p), api.ErrSyntax)
		checkRefused(t, what, spoiled(func(x *api.Spec) { x.Pieces[1].Pattern = p }), api.ErrSyntax)
	}
	for what, e := range map[string]*api.Expr{
		"nil": nil, "zero": {}, "a nil in a list": row(nil), "below 0": num(-1), "place 0": arg(0), "place 21": arg(api.MaxRight + 1), "201 bytes": str(strings.Repeat("x", 201)), "no code point": str("\xff"), "no operator": op("?", num(1), num(2)), "no function": call("f", num(1)), "too few kids": call("int", num(1)), "too many": row(times(num(1), api.MaxExpr)...), "kind 11": {Kind: 11}, "a number with a text": {Kind: api.ENum, Text: "x"},
	} {
		checkRefused(t, what, within(e), api.ErrSyntax)
		checkRefused(t, what, spoiled(func(x *api.Spec) { x.Sorts[0].Cases[1].Action = e }), api.ErrSyntax)
		checkRefused(t, what+" inside", within(neg(e)), api.ErrSyntax)
	}
}

// P112: types that are none, sides that are none, ranks without names, sorts without cases.
func TestWriteOfWhatIsNone(t *testing.T) {
	round := api.Type{Kind: api.List}
	round.Of = &round
	for what, tp := range map[string]api.Type{
		"zero": {}, "5": simple(5), "-1": simple(-1), "a List with Of nil": simple(api.List), "a List of that": lists(1, simple(api.List)), "many Lists of that": lists(20000, simple(api.List)), "a List of zero": lists(1, api.Type{}), "an Int of an Int": {Kind: api.Int, Of: &api.Type{Kind: api.Int}}, "a Text of zero": {Kind: api.Text, Of: &api.Type{}}, "a Node of a List": {Kind: api.Node, Of: &api.Type{Kind: api.List}}, "a List of an Int of an Int": lists(1, api.Type{Kind: api.Int, Of: &api.Type{Kind: api.Int}}), "a List of itself": round,
	} {
		checkRefused(t, what, spoiled(func(x *api.Spec) { x.Sorts[0].Type = tp }), api.ErrSyntax)
		checkRefused(t, what, spoiled(func(x *api.Spec) { x.Sorts[1].Type = tp }), api.ErrSyntax)
	}
	for _, side := range []int{0, 4, -1, 1 << 40} {
		checkRefused(t, "a side", spoiled(func(x *api.Spec) { x.Ranks[1].Side = side }), api.ErrSyntax)
	}
	checkRefused(t, "no names", spoiled(func(x *api.Spec) { x.Ranks[1].Names = nil }), api.ErrSyntax)
	checkRefused(t, "no names", spoiled(func(x *api.Spec) { x.Ranks[0].Names = []string{} }), api.ErrSyntax)
	checkRefused(t, "no cases", spoiled(func(x *api.Spec) { x.Sorts[1].Cases = nil }), api.ErrSyntax)
	checkRefused(t, "no cases", spoiled(func(x *api.Spec) { x.Sorts[0].Cases = []api.Case{} }), api.ErrSyntax)
	checkRefused(t, "nothing", api.Spec{}, api.ErrSyntax)
}

// grown are Specs that have more and more of one thing.
func grown(count int) map[string]api.Spec {
	quotes := str(strings.Repeat(`"`, 200))
	comb := setOf()
	for p := range 50 {
		comb.Set = append(comb.Set, api.Range{Lo: 0x3000 + 2*p, Hi: 0x3000 + 2*p})
	}
	return map[string]api.Spec{
		"pieces":   {Name: "g", Pieces: slices.Repeat([]api.Piece{piece("x", a)}, count)},
		"patterns": {Name: "g", Pieces: slices.Repeat([]api.Piece{piece("x", comb)}, count)},
		"modes":    {Name: "g", Pieces: slices.Repeat([]api.Piece{piece("x", a), {Name: "x", Mode: "m", Pattern: a, Push: "-"}}, count)},
		"ranks":    {Name: "g", Ranks: slices.Repeat([]api.Rank{rank(api.ToLeft, "x")}, count)},
		"names":    {Name: "g", Ranks: []api.Rank{rank(api.ToLeft, slices.Repeat([]string{"x"}, count)...)}},
		"sorts":    {Name: "g", Sorts: slices.Repeat([]api.Sort{sort("s", whole, makes(num(1)))}, count)},
		"cases":    {Name: "g", Sorts: []api.Sort{sort("s", whole, slices.Repeat([]api.Case{makes(num(1))}, count)...)}},
		"symbols":  {Name: "g", Sorts: []api.Sort{sort("s", whole, makes(num(1), slices.Repeat([]string{"x"}, count)...))}},
		"lists":    {Name: "g", Sorts: []api.Sort{sort("s", lists(count, whole), makes(num(1)))}},
		"quotes":   {Name: "g", Sorts: []api.Sort{sort("s", whole, slices.Repeat([]api.Case{makes(quotes)}, count)...)}},
	}
}

// named is a Spec with a name of so many bytes.
func named(x api.Spec, size int) api.Spec {
	x.Name = strings.Repeat("g", size)
	return x
}

// P112: a text may have MaxText bytes, and no more; what has no text at all is ErrSyntax, however long.
func TestWriteOfWhatIsTooLong(t *testing.T) {
	filled := 0
	for what := range grown(1) {
		first, second := len(checkBack(t, what, grown(1)[what])), len(checkBack(t, what, grown(2)[what]))
		count := 1 + (api.MaxText-first)/(second-first)
		most := grown(count)[what]
		if room := api.MaxText - len(checkBack(t, what, most)); room <= 38 {
			if text := checkBack(t, what, named(most, 1+room)); len(text) != api.MaxText {
				t.Errorf("%s: %d bytes", what, len(text))
			}
			checkRefused(t, what, named(most, 2+room), api.ErrBound)
			filled++
		}
		for _, more := range []int{count + 1, count + 2, 10 * count} {
			x := grown(more)[what]
			checkRefused(t, what, x, api.ErrBound)
			checkRefused(t, what, named(x, 41), api.ErrSyntax)
			x.Sorts = append(x.Sorts, sort("s", simple(api.List), makes(num(1))))
			checkRefused(t, what, x, api.ErrSyntax)
		}
	}
	if filled < 6 {
		t.Errorf("only %d have just as many bytes as may be", filled)
	}
	checkRefused(t, "an expression too long alone", within(row(times(str(strings.Repeat(`"`, 200)), api.MaxExpr-1)...)), api.ErrBound)
	wide := setOf()
	for p := range 20000 {
		wide.Set = append(wide.Set, api.Range{Lo: 0x3000 + 3*p, Hi: 0x3000 + 3*p + 1})
	}
	checkRefused(t, "a pattern too long alone", cutBy(wide), api.ErrBound)
}

// P112: of what Read says of at most 3,000 bytes there is a text.
func TestWriteOfShortTexts(t *testing.T) {
	filled := func(ahead, again, behind string) string {
		return ahead + strings.Repeat(again, (3000-len(ahead)-len(behind))/len(again)) + behind
	}
	for what, s := range map[string]string{
		"controls":   filled("grammar g tokens ", "x=`[\x01\x03\x05\x07\x0b\x0e\x10\x12\x14\x16\x18\x1a\x1c\x1e\x7f]`;", ""),
		"points":     filled("grammar g tokens ", "x=`\x01\x02\x01\x02\x01\x02`;", ""),
		"others":     filled("grammar g tokens ", "x=`[^\u0250\u0252\u0254]`;", ""),
		"one set":    filled("grammar g tokens x=`[", "\u0301\u0303\u0305\u0307\u0309\u0311\u0313\u0315\u0317", "]`;"),
		"nothing":    filled("grammar g tokens ", "x=`||`;", ""),
		"modes":      filled("grammar g ", "tokens:m x=``;tokens x=``;", ""),
		"ranks":      filled("grammar g levels ", "left x;", ""),
		"sorts":      filled("grammar g rules ", "s:int={1};", ""),
		"cases":      filled("grammar g rules s:int={1}", "|{1}", ";"),
		"levels":     filled("grammar g rules s:int={1}", "|%x{1}", ";"),
		"symbols":    filled("grammar g rules s:int=", "x ", "{1};"),
		"lists":      filled("grammar g rules s:", "list ", "int={1};"),
		"operators":  filled("grammar g rules s:int={1}", "|{1+-1*2==3}", ";"),
		"row":        filled("grammar g rules s:int={[]}", "|{[1,1,1,1,1,1]}", ";"),
		"texts":      filled("grammar g rules s:int={1}", "|{\"\\n\\n\\n\"}", ";"),
		"conditions": filled("grammar g rules s:int={1}", "|{if(1)then(1)else(1)}", ";"),
	} {
		if len(s) > 3000 || len(s) < 2900 {
			t.Errorf("%s: %d bytes", what, len(s))
		}
		checkBack(t, what, mustRead(t, s))
	}
	wide := "grammar g tokens x=`["
	for p := 0x250; len(wide) < 2990; p += 2 {
		wide += string(rune(p))
	}
	checkBack(t, "a wide set", mustRead(t, wide+"]`;"))
}

// Write ends soon, also where one thing stands in very many places.
func TestWriteOfWhatStandsInManyPlaces(t *testing.T) {
	full := row(times(str(strings.Repeat("x", 200)), api.MaxExpr-1)...)
	sorts := slices.Repeat([]api.Sort{sort("s", lists(1000, whole), slices.Repeat([]api.Case{makes(full)}, 100)...)}, 200)
	checkRefused(t, "many", api.Spec{Name: "g", Sorts: sorts}, api.ErrBound)
	deep := row()
	for range 40 {
		deep = row(deep, deep)
	}
	checkRefused(t, "doubled", within(deep), api.ErrSyntax)
	if text, err := tongue.Write(api.Spec{Name: "g", Pieces: slices.Repeat([]api.Piece{piece("x", a)}, 1<<20)}); text != "" || err != api.ErrBound {
		t.Errorf("%d bytes, %v", len(text), err)
	}
}
