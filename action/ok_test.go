package action_test

import (
	"strings"
	"testing"

	"grammarsmith/action"
	"grammarsmith/api"
)

// P101: valid expressions of each kind.
func TestOk(t *testing.T) {
	long := "a" + strings.Repeat("z9_", 13)
	for what, e := range map[string]*api.Expr{
		"0": num(0), "the greatest number": num(1<<63 - 1), "an empty text": str(""), "all signs": str("\"\\\n\x00\t\r`é𝄞\ufffd\U0010ffff"), "200 bytes": str(strings.Repeat("x", 200)), "200 bytes of points": str(strings.Repeat("é", 100)),
		"$1": arg(1), "the last place": arg(api.MaxRight), "a": name("a"), "a name of 40 bytes": name(long), "a name with digits": name("a_0"), "a name that begins with a word": name("let_"), "a name that begins as a function": name("lens"), "a name within a word": name("el"), "a name with a word behind": name("xin"),
		"a let": let("a", num(1), name("b")), "a let of 40 bytes": let(long, num(1), num(2)), "an if": cond(num(1), num(2), num(3)), "neg": neg(num(1)), "no list": row(), "a list": row(num(1)), "a list of nil": {Kind: api.EList, Kids: []*api.Expr{}}, "wrong types": op("++", num(1), str("")),
		"MaxExpr in a list": row(times(num(1), api.MaxExpr-1)...), "MaxExpr in one another": negs(num(1), api.MaxExpr-1), "MaxExpr by kids in many places": row(times(row(times(num(1), 9)...), 19)...),
	} {
		if !action.Ok(e) {
			t.Errorf("%s is not valid", what)
		}
	}
	if len(long) != 40 {
		t.Fatal(len(long))
	}
	for _, o := range operators {
		if !action.Ok(op(o, num(1), num(2))) {
			t.Errorf("%s is not valid", o)
		}
	}
	for f, n := range takes {
		if !action.Ok(call(f, times(num(1), n)...)) {
			t.Errorf("%s is not valid", f)
		}
	}
	for _, e := range validOnes(2000) {
		if !action.Ok(e) {
			t.Fatalf("%+v is not valid", e)
		}
	}
}

func negs(e *api.Expr, count int) *api.Expr {
	for range count {
		e = neg(e)
	}
	return e
}

// odd are expressions that are not valid, each for one reason.
func odd() map[string]*api.Expr {
	one := num(1)
	twice := one
	for range 80 {
		twice = op("+", twice, twice)
	}
	round := row(one, nil)
	round.Kids[1] = round
	out := map[string]*api.Expr{
		"nil": nil, "kind 0": {}, "kind 11": {Kind: 11}, "kind -1": {Kind: -1}, "kind 11 with kids": {Kind: 11, Kids: times(one, 2)},
		"a number below 0": num(-1), "the least number": num(-1 << 63), "place 0": arg(0), "a place below 0": arg(-1), "place MaxRight and one": arg(api.MaxRight + 1), "a place far away": arg(1 << 40),
		"201 bytes": str(strings.Repeat("x", 201)), "201 bytes of points": str(strings.Repeat("é", 100) + "x"), "a broken byte": str("a\xff"), "half a point": str("\xc3"), "half of a pair": str("\xed\xa0\x80"), "a byte behind": str("\x80"), "too many bytes for a point": str("\xc0\x80"),
		"no operator": op("", one, one), "no operator >": op(">", one, one), "no operator =": op("=", one, one), "no operator with blanks": op("+ ", one, one), "no operator +++": op("+++", one, one), "a word as operator": op("in", one, one),
		"no function": call("", one), "a name as function": call("f", one), "a word as function": call("let", one, one), "a function with a blank": call("len ", one), "a great function": call("Len", one), "no function without kids": call("f"), "nothing called with nothing": call(""),
		"MaxExpr and one in a list": row(times(one, api.MaxExpr)...), "MaxExpr and one in one another": negs(one, api.MaxExpr), "MaxExpr and one by kids in many places": row(append(times(row(times(one, 9)...), 19), row(times(one, 9)...))...), "a kid in many places": twice, "a long list": row(times(one, 1<<20)...), "far too deep": negs(one, 100000), "in itself": round,
		"nil in a list": row(one, nil), "nil alone in a list": row(nil), "nil far inside": row(one, neg(op("*", one, cond(one, one, let("a", one, nil))))), "wrong inside": row(one, neg(num(-1))), "wrong at the end": cond(one, one, name("if")),
	}
	for _, s := range []string{"", "A", "1", "1a", "_", "_a", "aB", "a b", " a", "a ", "a-b", "é", "aé", "a\x00", "a\xff", "$1", "a.b", "let", "in", "if", "then", "else", "len", "at", "text", "int", "node", "tag", "kids", "a" + strings.Repeat("z", 40), strings.Repeat("a", 1<<16)} {
		out["the name "+s] = name(s)
		out["let of the name "+s] = let(s, one, one)
	}
	for what, e := range wrongKids() {
		out[what] = e
	}
	for what, e := range wrongFields() {
		out[what] = e
	}
	return out
}

// wrongKids are expressions of each kind with a kid too few, a kid too many, and a kid that is nil.
func wrongKids() map[string]*api.Expr {
	out := map[string]*api.Expr{}
	add := func(what string, kids int, make func(kids []*api.Expr) *api.Expr) {
		out[what+" with a kid too many"] = make(times(num(1), kids+1))
		if kids > 0 {
			out[what+" with a kid too few"] = make(times(num(1), kids-1))
			out[what+" without kids"] = make(nil)
		} else {
			out[what+" with a nil kid"] = make([]*api.Expr{nil})
		}
		for i := range kids {
			l := times(num(1), kids)
			l[i] = nil
			out[what+" with nil at "+string(rune('0'+i))] = make(l)
		}
	}
	of := func(e api.Expr) func(kids []*api.Expr) *api.Expr {
		return func(kids []*api.Expr) *api.Expr { e := e; e.Kids = kids; return &e }
	}
	add("a number", 0, of(*num(1)))
	add("a text", 0, of(*str("a")))
	add("a place", 0, of(*arg(1)))
	add("a name", 0, of(*name("a")))
	add("a let", 2, of(api.Expr{Kind: api.ELet, Text: "a"}))
	add("an if", 3, of(api.Expr{Kind: api.EIf}))
	add("a neg", 1, of(api.Expr{Kind: api.ENeg}))
	for _, o := range operators {
		add(o, 2, of(api.Expr{Kind: api.EOp, Text: o}))
	}
	for f, n := range takes {
		add(f, n, of(api.Expr{Kind: api.ECall, Text: f}))
	}
	return out
}

// wrongFields are expressions of each kind with a field that is not asked for.
func wrongFields() map[string]*api.Expr {
	one := num(1)
	out := map[string]*api.Expr{}
	for what, e := range map[string]*api.Expr{"a number": num(1), "a place": arg(1), "an if": cond(one, one, one), "a neg": neg(one), "a list": row(one), "an empty list": row()} {
		e.Text = "a"
		out[what+" with Text"] = e
	}
	for what, e := range map[string]*api.Expr{"a text": str("a"), "a name": name("a"), "a let": let("a", one, one), "an if": cond(one, one, one), "an operator": op("+", one, one), "a neg": neg(one), "a list": row(one), "an empty list": row(), "a function": call("len", one)} {
		for sign, n := range map[string]int64{" with Num": 1, " with Num below 0": -1} {
			e := *e
			e.Num = n
			out[what+sign] = &e
		}
	}
	return out
}

// P101: each reason for which an expression is not valid.
func TestOkOfWhatIsNot(t *testing.T) {
	for what, e := range odd() {
		if action.Ok(e) {
			t.Errorf("%.60s is valid", what)
		}
	}
}
