package action_test

import (
	"maps"
	"math"
	"math/big"
	"slices"
	"strconv"
	"strings"
	"testing"

	"grammarsmith/action"
	"grammarsmith/api"
	"grammarsmith/points"
)

// checkValue asks for a value, and that it is one of the type that Check gives.
func checkValue(t *testing.T, s string, args []api.Value, types []api.Type, want api.Value) {
	t.Helper()
	e := mustRead(t, s)
	tp, err := action.Check(e, types)
	if err != nil {
		t.Errorf("Check(%s): %v", s, err)
	}
	got := action.Eval(e, args)
	if !sameValue(got, want) || !action.Has(got, tp) {
		t.Errorf("Eval(%s) = %+v, want %+v", s, got, want)
	}
}

// P104: each kind.
func TestEval(t *testing.T) {
	args := []api.Value{whole(-3), words("é\xffa"), knot("k", knot("l"), knot("m", knot("o"))), many(), many(whole(4), whole(5)), many(many(), many(whole(6)))}
	number := simple(api.Int)
	types := []api.Type{number, simple(api.Text), simple(api.Node), bareList(), listOf(number), lists(2, number)}
	for s, want := range map[string]api.Value{
		"7": whole(7), "9223372036854775807": whole(math.MaxInt64), `"a\n\"\\"`: words("a\n\"\\"), "$1": args[0], "$2": args[1], "$3": args[2], "$4": args[3], "$5": args[4], "$6": args[5],
		"let a = 2 in a": whole(2), "let a = 2 in let a = a + 1 in a": whole(3), "let a = 2 in (let a = 3 in a) * 10 + a": whole(32), "let a = 2 in let b = 3 in a - b": whole(-1), "let a = $5 in a ++ a": many(whole(4), whole(5), whole(4), whole(5)), "let a = (let a = 1 in a + 1) in a": whole(2), `[(let a = 1 in a), (let a = 2 in a)]`: many(whole(1), whole(2)), "let b = 1 in let a = (let b = 5 in b) in b": whole(1), "let a = 2 in [a, $1]": many(whole(2), whole(-3)),
		"if 1 then 2 else 3": whole(2), "if 0 then 2 else 3": whole(3), "if -1 then 2 else 3": whole(2), "if 2 == 3 then $4 else [1]": many(whole(1)), "if $1 then $4 else [1]": many(), "if 0 then 1 / 0 else if 1 then 5 else 6": whole(5),
		"[]": many(), "[1, 2]": many(whole(1), whole(2)), "[[], [1]]": many(many(), many(whole(1))), "[$1, $1]": many(whole(-3), whole(-3)), "-5": whole(-5), "--5": whole(5), "-$1": whole(3), "-0": whole(0),
		`len("")`: whole(0), "len($2)": whole(3), `len("é𝄞x")`: whole(3), "len([])": whole(0), "len($5)": whole(2), "len($6)": whole(2), "len(kids($3))": whole(2),
		"at($5, 0, 9)": whole(4), "at($5, 1, 9)": whole(5), "at($5, 2, 9)": whole(9), "at($5, -1, 9)": whole(9), "at($5, 9223372036854775807, 9)": whole(9), "at($5, -9223372036854775807 - 1, 9)": whole(9), "at($5, 4294967296, 9)": whole(9), "at($4, 0, 9)": whole(9), "at([], 0, $3)": args[2], "at($6, 1, [])": many(whole(6)), "at($6, 0, [1])": many(), "at(kids($3), 1, $3)": args[2].List[1],
		"text(0)": words("0"), "text($1)": words("-3"), "text(9223372036854775807 + 1)": words("-9223372036854775808"), "text(1000000)": words("1000000"),
		`node("n", [])`: knot("n"), `node("", kids($3))`: knot("", args[2].List...), `node($2, [$3])`: knot("é\xffa", args[2]), "tag($3)": words("k"), "kids($3)": many(args[2].List...), `kids(node("n", []))`: many(), `tag(node("a" ++ "b", []))`: words("ab"), `node("n", [] ++ [])`: knot("n"), `node("n", $4)`: knot("n"),
		`"a" ++ "b"`: words("ab"), `"" ++ ""`: words(""), "$2 ++ $2": words("é\xffaé\xffa"), "[1] ++ [2, 3]": many(whole(1), whole(2), whole(3)), "[] ++ $5": args[4], "$5 ++ []": args[4], "[] ++ []": many(), "$6 ++ [[7]]": many(many(), many(whole(6)), many(whole(7))), `"a" ++ "b" ++ "c"`: words("abc"),
		"let a = [1] in let b = a ++ [2] in [a ++ [3], b ++ [4], a]": many(many(whole(1), whole(3)), many(whole(1), whole(2), whole(4)), many(whole(1))),
	} {
		checkValue(t, s, args, types, want)
	}
}

// P104: values that are the same, and lesser ones.
func TestEvalOfWhatCompares(t *testing.T) {
	for s, want := range map[string]int64{
		"1 == 1": 1, "1 == 2": 0, "-1 == 1": 0, `"a" == "a"`: 1, `"a" == "b"`: 0, `"a" == "ab"`: 0, `"" == ""`: 1, "[] == []": 1, "[] == [1]": 0, "[1] == [1]": 1, "[1] == [2]": 0, "[1, 2] == [1]": 0, "[1, 2] == [2, 1]": 0, "[[]] == [[]]": 1, "[[]] == []": 0, "[[], [1]] == [[], [1]]": 1, "[[1], []] == [[], [1]]": 0, "[[]] == [[1]]": 0,
		`node("a", []) == node("a", [])`: 1, `node("a", []) == node("b", [])`: 0, `node("a", []) == node("a", [node("a", [])])`: 0, `node("a", [node("b", [])]) == node("a", [node("b", [])])`: 1, `node("a", [node("b", [])]) == node("a", [node("c", [])])`: 0, `[node("a", [node("x", []), node("y", [])])] == [node("a", [node("x", []), node("z", [])])]`: 0, `text(1) == "1"`: 1,
		"1 < 2": 1, "2 < 1": 0, "1 < 1": 0, "-1 < 0": 1, "9223372036854775807 + 1 < 0": 1, `"a" < "b"`: 1, `"b" < "a"`: 0, `"a" < "a"`: 0, `"" < "a"`: 1, `"a" < ""`: 0, `"a" < "ab"`: 1, `"b" < "ab"`: 0, `"Z" < "a"`: 1, `"z" < "é"`: 1, `"\uffff" < "𝄞"`: 1, `"10" < "9"`: 1,
	} {
		s = strings.ReplaceAll(s, `\uffff`, "\uffff")
		checkValue(t, s, nil, nil, whole(want))
	}
	text := simple(api.Text)
	for _, c := range []struct {
		a, b string
		want int64
	}{{"\xff", "a", 0}, {"a", "\xff", 1}, {"\x80", "é", 1}, {"é", "\xff", 1}, {"\ufffd", "\xff", 1}, {"\xff", "\xff", 0}} {
		checkValue(t, "$1 < $2", []api.Value{words(c.a), words(c.b)}, []api.Type{text, text}, whole(c.want))
	}
	checkValue(t, "$1 == $2", []api.Value{words("\xff"), words("\xfe")}, []api.Type{text, text}, whole(0))
	checkValue(t, "$1 == []", []api.Value{{Kind: api.List, List: []api.Value{}}}, []api.Type{bareList()}, whole(1))
}

// counted goes by the words of P104, in whole numbers as large as they become.
func counted(o string, a, b int64) int64 {
	x, y, z := big.NewInt(a), big.NewInt(b), new(big.Int)
	switch o {
	case "+":
		z.Add(x, y)
	case "-":
		z.Sub(x, y)
	case "*":
		z.Mul(x, y)
	case "/":
		if b != 0 {
			z.Quo(x, y)
		}
	case "%":
		if b != 0 {
			z.Rem(x, y)
		}
	}
	return int64(z.And(z, new(big.Int).SetUint64(math.MaxUint64)).Uint64())
}

// P104: numbers wrap; what is parted is cut off towards zero; by 0 it is 0.
func TestEvalOfNumbers(t *testing.T) {
	number := simple(api.Int)
	edges := []int64{0, 1, 2, 3, 7, 10, -1, -2, -3, -7, -10, math.MaxInt64, math.MaxInt64 - 1, math.MinInt64, math.MinInt64 + 1, 1 << 32, -1 << 32, 1<<32 + 1, 3037000500, 1 << 62, -1 << 62}
	for _, a := range edges {
		for _, b := range edges {
			for _, o := range []string{"+", "-", "*", "/", "%"} {
				want := counted(o, a, b)
				if got := action.Eval(op(o, arg(1), arg(2)), []api.Value{whole(a), whole(b)}); !sameValue(got, whole(want)) {
					t.Errorf("%d %s %d is %+v, want %d", a, o, b, got, want)
				}
			}
		}
		checkValue(t, "-$1", []api.Value{whole(a)}, []api.Type{number}, whole(counted("-", 0, a)))
		checkValue(t, "int(text($1), 5)", []api.Value{whole(a)}, []api.Type{number}, whole(a))
		checkValue(t, "text($1)", []api.Value{whole(a)}, []api.Type{number}, words(strconv.FormatInt(a, 10)))
	}
	least, minus := []api.Value{whole(math.MinInt64), whole(-1)}, []api.Type{number, number}
	for s, want := range map[string]int64{"$1 / $2": math.MinInt64, "$1 % $2": 0, "-$1": math.MinInt64, "$1 - 1": math.MaxInt64, "$1 / 0": 0, "$1 % 0": 0, "-7 / 2": -3, "-7 % 2": -1, "7 / -2": -3, "7 % -2": 1, "-7 / -2": 3, "-7 % -2": -1, "0 / 0": 0, "0 % 0": 0, "9223372036854775807 * 2": -2} {
		checkValue(t, s, least, minus, whole(want))
	}
}

// P104: the number that a text writes.
func TestEvalOfTextsAsNumbers(t *testing.T) {
	text := simple(api.Text)
	for s, want := range map[string]int64{
		"0": 0, "12": 12, "-12": -12, "-0": 0, "007": 7, "-007": -7, "00": 0, strings.Repeat("0", 500) + "5": 5, "9223372036854775807": math.MaxInt64, "-9223372036854775808": math.MinInt64, "-0009223372036854775808": math.MinInt64,
		"": 99, "-": 99, "+": 99, "+5": 99, "--5": 99, "-+5": 99, "+-5": 99, "5-": 99, " 5": 99, "5 ": 99, "\n5": 99, "5\n": 99, "- 5": 99, "1 2": 99, "1x": 99, "x": 99, "0x10": 99, "1_0": 99, "1.0": 99, "1e3": 99, "٣": 99, "1٣": 99, "５": 99, "1\xff": 99, "\xff": 99, "1\x00": 99, "−5": 99,
		"9223372036854775808": 99, "-9223372036854775809": 99, "18446744073709551615": 99, "18446744073709551616": 99, "18446744073709551617": 99, strings.Repeat("9", 500): 99, "-" + strings.Repeat("9", 500): 99,
	} {
		checkValue(t, "int($1, 99)", []api.Value{words(s)}, []api.Type{text}, whole(want))
	}
}

// evaled goes by the words of P104, for expressions that Check has no error of.
type evaled struct {
	args []api.Value
}

func (m evaled) of(e *api.Expr, names map[string]api.Value) api.Value {
	kid := func(i int) api.Value { return m.of(e.Kids[i], names) }
	truth := func(is bool) api.Value {
		if is {
			return whole(1)
		}
		return whole(0)
	}
	switch e.Kind {
	case api.ENum:
		return whole(e.Num)
	case api.EText:
		return words(e.Text)
	case api.EArg:
		return m.args[e.Num-1]
	case api.EName:
		return names[e.Text]
	case api.ELet:
		inner := maps.Clone(names)
		inner[e.Text] = kid(0)
		return m.of(e.Kids[1], inner)
	case api.EIf:
		if kid(0).Num != 0 {
			return kid(1)
		}
		return kid(2)
	case api.ENeg:
		return whole(counted("-", 0, kid(0).Num))
	case api.EList:
		out := many()
		for i := range e.Kids {
			out.List = append(out.List, kid(i))
		}
		return out
	}
	a := kid(0)
	switch e.Text {
	case "==":
		return truth(sameValue(a, kid(1)))
	case "<":
		b := kid(1)
		if a.Kind == api.Int {
			return truth(a.Num < b.Num)
		}
		return truth(slices.Compare([]byte(a.Text), []byte(b.Text)) < 0)
	case "++":
		b := kid(1)
		if a.Kind == api.Text {
			return words(a.Text + b.Text)
		}
		return many(slices.Concat(a.List, b.List)...)
	case "len":
		if a.Kind == api.Text {
			return whole(int64(len(points.Points(a.Text))))
		}
		return whole(int64(len(a.List)))
	case "at":
		if i := kid(1).Num; i >= 0 && i < int64(len(a.List)) {
			return a.List[i]
		}
		return kid(2)
	case "text":
		return words(big.NewInt(a.Num).String())
	case "int":
		digits := strings.TrimPrefix(a.Text, "-")
		n, is := new(big.Int).SetString(digits, 10)
		if !is || strings.Trim(digits, "0123456789") != "" {
			return kid(1)
		}
		if digits != a.Text {
			n.Neg(n)
		}
		if !n.IsInt64() {
			return kid(1)
		}
		return whole(n.Int64())
	case "node":
		return knot(a.Text, kid(1).List...)
	case "tag":
		return words(a.Text)
	case "kids":
		return many(a.List...)
	}
	return whole(counted(e.Text, a.Num, kid(1).Num))
}

// P104: expressions without an error, by the chapter's words; their values are of the type that Check gives.
func TestEvalByTheWords(t *testing.T) {
	d := &dice{seed: 12}
	types, wanted := allTypes(2), 0
	for range 60000 {
		w := &world{dice: d}
		var args []api.Value
		for range d.next(5) {
			tp := pick(d, types...)
			w.args = append(w.args, tp)
			args = append(args, d.value(tp, 3))
		}
		aim := pick(d, types...)
		e := w.of(aim, 1+d.next(4))
		if size(e) > api.MaxExpr {
			continue
		}
		text, _ := action.Write(e)
		tp, err := action.Check(e, w.args)
		if err != nil || !fits(tp, aim) {
			t.Fatalf("Check(%s) = %s, %v, want %s", text, showType(tp), err, showType(aim))
		}
		want := evaled{args}.of(e, map[string]api.Value{})
		got := action.Eval(e, args)
		if !sameValue(got, want) || !action.Has(got, tp) || !has(got, tp) {
			t.Fatalf("Eval(%s) = %+v, want %+v, of %s, with %+v", text, got, want, showType(tp), args)
		}
		wanted++
	}
	if wanted < 30000 {
		t.Errorf("only %d", wanted)
	}
}

// world makes expressions whose types fit those asked for, beside arguments and names of some types.
type world struct {
	*dice
	args  []api.Type
	names []string
	types []api.Type
}

// known are places and names of a type.
func (w *world) known(t api.Type) []*api.Expr {
	var out []*api.Expr
	for i, a := range w.args {
		if sameType(a, t) {
			out = append(out, arg(int64(i+1)))
		}
	}
	for i := len(w.names) - 1; i >= 0; i-- {
		if slices.Index(w.names[i+1:], w.names[i]) < 0 && sameType(w.types[i], t) {
			out = append(out, name(w.names[i]))
		}
	}
	return out
}

func (w *world) of(t api.Type, levels int) *api.Expr {
	if known := w.known(t); len(known) > 0 && w.next(3) == 0 {
		return pick(w.dice, known...)
	}
	if levels <= 0 {
		return w.plainest(t)
	}
	levels--
	switch w.next(8) {
	case 0:
		s, u := pick(w.dice, "a", "b"), pick(w.dice, allTypes(1)...)
		value := w.of(u, levels)
		w.names, w.types = append(w.names, s), append(w.types, u)
		body := w.of(t, levels)
		w.names, w.types = w.names[:len(w.names)-1], w.types[:len(w.types)-1]
		return let(s, value, body)
	case 1:
		return cond(w.of(simple(api.Int), levels), w.of(t, levels), w.of(t, levels))
	case 2:
		return call("at", w.of(listOf(t), levels), num(int64(w.next(3))), w.of(t, levels))
	}
	return w.made(t, levels)
}

func (w *world) plainest(t api.Type) *api.Expr {
	switch t.Kind {
	case api.Int:
		return num(pick[int64](w.dice, 0, 1, 2, 3, 1<<63-1))
	case api.Text:
		return str(pick(w.dice, "", "a", "é", "12", "-5", "x1"))
	case api.Node:
		return call("node", str(pick(w.dice, "m", "n")), row())
	}
	return row()
}

// made is an expression that is made of others by what its type asks for.
func (w *world) made(t api.Type, levels int) *api.Expr {
	number, text, node := simple(api.Int), simple(api.Text), simple(api.Node)
	any := pick(w.dice, allTypes(1)...)
	var out []*api.Expr
	add := func(e *api.Expr) { out = append(out, e) }
	switch t.Kind {
	case api.Int:
		add(op(pick(w.dice, "+", "-", "*", "/", "%"), w.of(number, levels), w.of(number, levels)))
		add(op("==", w.of(any, levels), w.of(any, levels)))
		both := pick(w.dice, number, text)
		add(op("<", w.of(both, levels), w.of(both, levels)))
		add(neg(w.of(number, levels)))
		add(call("len", w.of(pick(w.dice, text, listOf(any)), levels)))
		add(call("int", w.of(text, levels), w.of(number, levels)))
	case api.Text:
		add(op("++", w.of(text, levels), w.of(text, levels)))
		add(call("text", w.of(number, levels)))
		add(call("tag", w.of(node, levels)))
	case api.Node:
		add(call("node", w.of(text, levels), w.of(listOf(node), levels)))
	case api.List:
		add(op("++", w.of(t, levels), w.of(t, levels)))
		if t.Of == nil {
			add(row())
			break
		}
		var kids []*api.Expr
		for range w.next(4) {
			kids = append(kids, w.of(*t.Of, levels))
		}
		add(row(kids...))
		if t.Of.Kind == api.Node {
			add(call("kids", w.of(node, levels)))
		}
	}
	return pick(w.dice, out...)
}

// value is a value of a type.
func (d *dice) value(t api.Type, levels int) api.Value {
	switch t.Kind {
	case api.Int:
		return whole(pick[int64](d, 0, 1, -1, 5, math.MaxInt64, math.MinInt64))
	case api.Text:
		return words(pick(d, "", "a", "é", "\xff", "12", "-9223372036854775808", "9223372036854775808"))
	case api.Node:
		out := knot(pick(d, "", "m", "n"))
		for range d.next(3) * min(levels, 1) {
			out.List = append(out.List, d.value(t, levels-1))
		}
		return out
	}
	out := many()
	if t.Of != nil {
		for range d.next(3) {
			out.List = append(out.List, d.value(*t.Of, levels-1))
		}
	}
	return out
}

// The limits: values of 10,000 values and bytes.
func TestEvalOfLargeValues(t *testing.T) {
	number, text := simple(api.Int), simple(api.Text)
	big := many(slices.Repeat([]api.Value{whole(1)}, 4999)...)
	checkValue(t, "len($1 ++ $1)", []api.Value{big}, []api.Type{listOf(number)}, whole(9998))
	checkValue(t, "$1 ++ $1 == $1 ++ $1", []api.Value{big}, []api.Type{listOf(number)}, whole(1))
	long := words(strings.Repeat("é", 2499))
	checkValue(t, "len($1 ++ $1)", []api.Value{long}, []api.Type{text}, whole(4998))
	deep, other := knot("n"), knot("m")
	for range 4000 {
		deep, other = knot("n", deep), knot("n", other)
	}
	nodes := []api.Type{simple(api.Node), simple(api.Node)}
	checkValue(t, "$1", []api.Value{deep}, nodes, deep)
	checkValue(t, "$1 == $2", []api.Value{deep, other}, nodes, whole(0))
	// What is not gone through may be of any size.
	huge := words(strings.Repeat("x", 1<<24))
	checkValue(t, "if 1 then $1 else $2", []api.Value{words("a"), huge}, []api.Type{text, text}, words("a"))
	checkValue(t, "1", []api.Value{huge}, []api.Type{text}, whole(1))
}

// doubled is a value that is doubled as often as may be in a text that stands at T in another.
func doubled(s, double, around string) *api.Expr {
	var last *api.Expr
	for {
		e, err := action.Read(strings.ReplaceAll(around, "T", s))
		if err != nil {
			return last
		}
		last = e
		s = "let a = " + s + " in " + double
	}
}

// Beyond the limits nothing is promised, but the calls end.
func TestEvalEnds(t *testing.T) {
	for double, s := range map[string]string{"a ++ a": `"xyz"`, "a ++ [1] ++ a": "[1, 2, 3]", "[a, a]": "[]", "[a] ++ [a]": "[]", `node("n", [a, a])`: `node("n", [])`, `node("n", kids(a) ++ kids(a) ++ [a, a])`: `node("n", [])`, `node(tag(a) ++ tag(a), [a])`: `node("n", [])`} {
		for _, around := range []string{"T", "(T) == (T)", "let b = (T) in [len(b), len(at(b, 0, b)), len(kids(b))]"} {
			action.Eval(doubled(s, double, around), nil)
		}
	}
	lasting := mustRead(t, strings.Repeat("let a = a ++ a in ", 45)+"a")
	action.Eval(let("a", str("x"), lasting), nil)
	action.Eval(let("a", row(num(1)), lasting), nil)
	action.Eval(let("a", row(op("+", str(""), num(1))), lasting), nil)
	node, list := knot("n"), many()
	for range 80 {
		node, list = knot("n", node, node), many(list, list)
	}
	within := []api.Value{many(), {}}
	within[1] = api.Value{Kind: api.List, List: within}
	deep := knot("n")
	for range 1 << 21 {
		deep = knot("n", deep)
	}
	args := []api.Value{node, list, within[1], deep, many(within...), words(strings.Repeat("x", 1<<25))}
	for i := range args {
		p := "$" + strconv.Itoa(i+1)
		for _, s := range []string{"P", "P == P", "[P, P]", "P ++ P", "len(P)", "kids(P)", "at(P, 1, P)", "tag(P)", `node("n", [P])`, "at(kids(P), 0, P)", "P ++ P ++ P ++ P == P ++ P ++ P ++ P"} {
			action.Eval(mustRead(t, strings.ReplaceAll(s, "P", p)), args)
		}
	}
}
