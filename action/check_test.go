package action_test

import (
	"maps"
	"testing"

	"grammarsmith/action"
	"grammarsmith/api"
)

// typed goes by the words of P103.
type typed struct {
	args []api.Type
}

func (m typed) of(e *api.Expr, names map[string]api.Type) (api.Type, error) {
	switch e.Kind {
	case api.EArg:
		if e.Num < 1 || e.Num > int64(len(m.args)) {
			return api.Type{}, api.ErrName
		}
		return m.args[e.Num-1], nil
	case api.EName:
		t, is := names[e.Text]
		if !is {
			return api.Type{}, api.ErrName
		}
		return t, nil
	case api.ELet:
		value, err := m.of(e.Kids[0], names)
		if err != nil {
			return value, err
		}
		inner := maps.Clone(names)
		inner[e.Text] = value
		return m.of(e.Kids[1], inner)
	}
	var kids []api.Type
	for _, k := range e.Kids {
		t, err := m.of(k, names)
		if err != nil {
			return t, err
		}
		kids = append(kids, t)
	}
	if t, is := m.made(e, kids); is {
		return t, nil
	}
	return api.Type{}, api.ErrType
}

func (m typed) made(e *api.Expr, kids []api.Type) (api.Type, bool) {
	number, text, node := simple(api.Int), simple(api.Text), simple(api.Node)
	are := func(l ...api.Type) bool {
		for i, t := range l {
			if !sameType(t, kids[i]) {
				return false
			}
		}
		return true
	}
	switch e.Kind {
	case api.ENum:
		return number, true
	case api.EText:
		return text, true
	case api.ENeg:
		return number, are(number)
	case api.EIf:
		t, is := join(kids[1], kids[2])
		return t, is && are(number)
	case api.EList:
		if len(kids) == 0 {
			return bareList(), true
		}
		all, is := kids[0], true
		for _, k := range kids {
			if is {
				all, is = join(all, k)
			}
		}
		return listOf(all), is
	}
	switch e.Text {
	case "==":
		_, is := join(kids[0], kids[1])
		return number, is
	case "<":
		return number, are(number, number) || are(text, text)
	case "++":
		if are(text, text) {
			return text, true
		}
		t, is := join(kids[0], kids[1])
		return t, is && kids[0].Kind == api.List
	case "len":
		return number, are(text) || kids[0].Kind == api.List
	case "at":
		if kids[0].Kind != api.List || !sameType(kids[1], number) {
			return api.Type{}, false
		}
		if kids[0].Of == nil {
			return kids[2], true
		}
		return join(*kids[0].Of, kids[2])
	case "text":
		return text, are(number)
	case "int":
		return number, are(text, number)
	case "node":
		return node, are(text) && fits(kids[1], listOf(node))
	case "tag":
		return text, are(node)
	case "kids":
		return listOf(node), are(node)
	}
	return number, are(number, number)
}

func checkType(t *testing.T, s string, e *api.Expr, args []api.Type, want api.Type, wrong error) {
	t.Helper()
	got, err := action.Check(e, args)
	if err != wrong || !sameType(got, want) {
		t.Errorf("Check(%.200s) = %s, %v, want %s, %v", s, showType(got), err, showType(want), wrong)
	}
}

// given are the types of the places in the tests below.
func given() []api.Type {
	number, text, node := simple(api.Int), simple(api.Text), simple(api.Node)
	return []api.Type{number, text, node, bareList(), listOf(number), listOf(text), listOf(node), listOf(bareList()), lists(2, number), lists(2, node), lists(2, bareList())}
}

// P103: the type of each kind.
func TestCheck(t *testing.T) {
	number, text, node := simple(api.Int), simple(api.Text), simple(api.Node)
	for s, want := range map[string]api.Type{
		"1": number, `"a"`: text, "$1": number, "$2": text, "$3": node, "$4": bareList(), "$11": lists(2, bareList()), "-1": number, "-$1": number, "[]": bareList(), "[1]": listOf(number), "[1, 2]": listOf(number), `["a"]`: listOf(text), "[[]]": listOf(bareList()), "[[], []]": listOf(bareList()), "[[], [1]]": lists(2, number), "[[1], []]": lists(2, number), "[[], [[]], []]": lists(2, bareList()), "[[], [[]], [[1]]]": lists(3, number), "[$4, $8, $9]": lists(3, number), "[$3]": listOf(node),
		"let a = 1 in a": number, `let a = 1 in "x"`: text, "let a = 1 in let b = [a] in b": listOf(number), `let a = 1 in let a = "x" in a`: text, "let a = 1 in let a = [a] in a": listOf(number), `[let a = "x" in a, let a = "y" in a]`: listOf(text), `let a = "x" in (let a = 1 in a) + len(a)`: number, `let a = (let b = 1 in b) in a`: number, "let a = [] in a ++ [1]": listOf(number), "let a = 2 in [a, $1]": listOf(number),
		"if 1 then 2 else 3": number, `if 1 then "a" else $2`: text, "if 1 then [] else [1]": listOf(number), "if 1 then [1] else []": listOf(number), "if 1 then [] else []": bareList(), "if 1 then [[]] else [[1], []]": lists(2, number), "if 1 then $11 else $8": lists(2, bareList()), "if $1 then $3 else $3": node,
		"1 == 2": number, `"a" == "b"`: number, "$3 == $3": number, "[] == [1]": number, "[1] == []": number, "$4 == $9": number, "$8 == $9": number, "1 < 2": number, `"a" < "b"`: number, "1 + 2": number, "1 - 2": number, "1 * 2": number, "1 / 2": number, "1 % 2": number, `"a" ++ "b"`: text, "[1] ++ [2]": listOf(number), "[] ++ [2]": listOf(number), "[2] ++ []": listOf(number), "[] ++ []": bareList(), "$8 ++ $9": lists(2, number), "$9 ++ $8": lists(2, number), "$8 ++ $11": lists(2, bareList()),
		`len("a")`: number, "len([])": number, "len($9)": number, "at([1], 0, 2)": number, "at([], 0, 2)": number, `at([], 0, "a")`: text, "at([], 0, [])": bareList(), "at([[]], 0, [])": bareList(), "at([[]], 0, [1])": listOf(number), "at([[1]], 0, [])": listOf(number), "at($9, 0, $5)": listOf(number), "at($7, 0, $3)": node, "at($11, 0, $9)": lists(2, number), "text(1)": text, `int("1", 2)`: number, `node("n", [])`: node, `node("n", $7)`: node, `node("n", $4)`: node, "tag($3)": text, "kids($3)": listOf(node), `node("n", kids($3) ++ [$3] ++ [])`: node,
	} {
		checkType(t, s, mustRead(t, s), given(), want, nil)
	}
}

// P103: what has not the types asked, and the first of several errors.
func TestCheckOfWhatIsWrong(t *testing.T) {
	for _, s := range []string{
		`-"a"`, "-[]", "-$3", `[1, "a"]`, "[1, []]", "[[1], [[]]]", "[[1], [$2]]", "[[], 1]", "[[], [[]], [1]]", "[$3, []]", "[1, 1, 1, $2]", `if "" then 1 else 2`, "if [] then 1 else 2", "if $3 then 1 else 2", `if 1 then 2 else "a"`, "if 1 then [] else 2", "if 1 then [1] else [$2]", "if 1 then [[]] else [1]", "if 1 then $10 else $9",
		`1 == "a"`, "1 == []", "[1] == [$2]", "$3 == $2", "[[]] == [1]", "$11 == [1]", `1 < "a"`, `"a" < 1`, "[] < []", "[1] < [2]", "$3 < $3", `1 + "a"`, `"a" + "b"`, "[] + []", `"a" - 1`, `"a" * 2`, `1 / "a"`, "[] % 2", "$3 + 1", "1 ++ 2", `1 ++ "a"`, `"a" ++ 1`, `"a" ++ []`, `[] ++ "a"`, "[1] ++ [$2]", "$3 ++ $3", "[[]] ++ [1]", "1 ++ []",
		"len(1)", "len($3)", "at(1, 0, 1)", `at("a", 0, "b")`, `at([1], "a", 1)`, "at([1], [], 1)", `at([1], 0, "a")`, "at([1], 0, [])", "at([[]], 0, 1)", "at([[1]], 0, [$2])", "at($3, 0, 1)", `at([], "a", 1)`, `text("a")`, "text([])", "int(1, 2)", `int("1", "2")`, "int([], 2)", "node(1, [])", `node("n", [1])`, `node("n", 1)`, `node("n", [[]])`, `node("n", $3)`, `node("n", $10)`, `node($3, [])`, `tag("n")`, "tag([])", "tag(1)", "kids(1)", `kids("n")`, "kids($7)",
		"[1 ++ 2, a]", "let a = 1 ++ 2 in b", "(1 ++ 2) + $12", "if 1 ++ 2 then a else 3", `(if "" then 1 else 2) + a`, `[-"a", $12]`, `len(1) + a`, "let a = -[] in b",
	} {
		checkType(t, s, mustRead(t, s), given(), api.Type{}, api.ErrType)
	}
	for _, s := range []string{
		"$12", "$20", "a", "[$12]", "-$12", "let a = 1 in b", "let a = a in 1", "let a = b in a", "(let a = 1 in a) + a", "a + (let a = 1 in a)", "let a = 1 in (let b = 2 in b) + b", "[let a = 1 in a, a]", "if 1 then let a = 1 in a else a", "let a = (let b = 1 in b) in b", "let a = let a = a in a in 1",
		`if "" then a else 3`, `if "" then 1 else $12`, `1 + (2 + ("a" + a))`, "[a, 1 ++ 2]", "[1, a, $2]", "a ++ 1", "1 ++ a", "len(a)", `at(1, "a", a)`, "a + (1 ++ 2)", "-a", "node(1, a)", "if a then 1 ++ 2 else 3", "let b = a in 1 ++ 2", `[$12, -"a"]`,
	} {
		checkType(t, s, mustRead(t, s), given(), api.Type{}, api.ErrName)
	}
	checkType(t, "$1", arg(1), nil, api.Type{}, api.ErrName)
	checkType(t, "$20", arg(20), given()[:1], api.Type{}, api.ErrName)
}

// P103: an expression that is not valid, and an argument's type that is none, also one that no place asks for.
func TestCheckOfWhatIsNotValid(t *testing.T) {
	for what, e := range odd() {
		checkType(t, what, e, given(), api.Type{}, api.ErrSyntax)
		checkType(t, what, e, nil, api.Type{}, api.ErrSyntax)
	}
	for what, tp := range noTypes() {
		for _, e := range []*api.Expr{num(1), arg(1), name("a"), arg(20), op("++", num(1), num(2))} {
			checkType(t, what, e, []api.Type{tp}, api.Type{}, api.ErrSyntax)
			checkType(t, what, e, append(given(), tp), api.Type{}, api.ErrSyntax)
		}
	}
}

// P103: any expressions, by the chapter's words.
func TestCheckByTheWords(t *testing.T) {
	d := &dice{seed: 8}
	seen := map[error]int{}
	types := allTypes(2)
	for range 60000 {
		e := d.expr(1 + d.next(4))
		if size(e) > api.MaxExpr {
			continue
		}
		var args []api.Type
		for range d.next(6) {
			args = append(args, pick(d, types...))
		}
		want, wrong := typed{args}.of(e, map[string]api.Type{})
		if wrong != nil {
			want = api.Type{}
		}
		text, _ := action.Write(e)
		checkType(t, text, e, args, want, wrong)
		seen[wrong]++
	}
	for _, err := range []error{nil, api.ErrName, api.ErrType} {
		if seen[err] < 2000 {
			t.Errorf("%v: only %d", err, seen[err])
		}
	}
}

// P100, P103: all pairs of types by all that joins.
func TestCheckOfAllPairs(t *testing.T) {
	types := allTypes(4)
	for _, a := range types {
		for _, b := range types {
			for _, s := range []string{"if 1 then $1 else $2", "$1 == $2", "$1 ++ $2", "[$1, $2]", "[$1, $2, $1]", "at([$1], 0, $2)", "at($1, 0, $2)", `node("n", $1)`, "[[$1], [], [$2]]", "$1 < $2", "$1 + $2"} {
				e := mustRead(t, s)
				want, wrong := typed{[]api.Type{a, b}}.of(e, nil)
				if wrong != nil {
					want = api.Type{}
				}
				checkType(t, s+" of "+showType(a)+" and "+showType(b), e, []api.Type{a, b}, want, wrong)
			}
		}
	}
}

// P103: types as deep as may be.
func TestCheckOfDeepTypes(t *testing.T) {
	deep := lists(1<<16-10, simple(api.Text))
	bare := lists(1<<16-20, bareList())
	checkType(t, "deep", mustRead(t, "[if $1 == $2 then $1 else $2]"), []api.Type{deep, bare}, listOf(deep), nil)
	checkType(t, "deep", mustRead(t, "$1 == $2"), []api.Type{deep, listOf(deep)}, api.Type{}, api.ErrType)
	checkType(t, "deep", mustRead(t, "at($1, 0, $2)"), []api.Type{listOf(deep), bare}, deep, nil)
}
