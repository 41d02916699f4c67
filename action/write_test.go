package action_test

import (
	"strings"
	"testing"

	"grammarsmith/action"
	"grammarsmith/api"
)

// checkBack asks that Read turns what Write gives into the same expression.
func checkBack(t *testing.T, what string, e *api.Expr) string {
	t.Helper()
	text, err := action.Write(e)
	if err != nil || len(text) > api.MaxText {
		t.Fatalf("%s: %d bytes, %v", what, len(text), err)
	}
	got, err := action.Read(text)
	if err != nil || !same(got, e) {
		t.Fatalf("%s: %.200q is read as %+v, %v", what, text, got, err)
	}
	return text
}

// kinds are expressions of each kind, with those given as kids.
func kinds(a, b, c *api.Expr) []*api.Expr {
	out := []*api.Expr{num(1), str("a"), arg(2), name("b"), row(), let("a", a, b), cond(a, b, c), neg(a), row(a), row(a, b, c)}
	for _, o := range operators {
		out = append(out, op(o, a, b))
	}
	for f, n := range takes {
		out = append(out, call(f, []*api.Expr{a, b, c}[:n]...))
	}
	return out
}

// P102: each kind in each other, in each other, as each kid.
func TestWriteOfEachInEach(t *testing.T) {
	one, two := num(1), num(2)
	for _, a := range kinds(one, two, one) {
		checkBack(t, "alone", a)
		for _, inner := range [][]*api.Expr{kinds(a, one, two), kinds(one, a, two), kinds(one, two, a)} {
			for _, b := range inner {
				checkBack(t, "in another", b)
				for _, outer := range [][]*api.Expr{kinds(b, one, two), kinds(one, b, two), kinds(one, two, b), kinds(b, b, b)} {
					for _, c := range outer {
						checkBack(t, "in another in another", c)
					}
				}
			}
		}
	}
}

func TestWriteOfManyExpressions(t *testing.T) {
	for _, e := range validOnes(20000) {
		checkBack(t, "mixed", e)
	}
}

// Brackets stand only where they must.
func TestWriteOfPlainTexts(t *testing.T) {
	for _, s := range []string{
		"1", `"a\"\\\n"`, "$20", "a_1", "let a = 1 in a + 2", "if 1 then 2 else 3", "1 + 2 * 3", "(1 + 2) * 3", "1 - 2 - 3", "1 - (2 - 3)", "(1 == 2) == 3", "1 == (2 < 3)", "1 + 2 == 3 * 4", "--1", "-(1 + 2)", "-1 * -2", "[]", "[1, [2], let a = 1 in a]", "at([1, 2], 0, -1)", "1 + (let a = 2 in a)", "(if 1 then 2 else 3) ++ []", "let a = let b = 1 in b in if a then b else c", "node(\"n\", [node(\"m\", [])])",
	} {
		if got := checkBack(t, s, mustRead(t, s)); got != s {
			t.Errorf("%q is written as %q", s, got)
		}
	}
}

// P102: each code point in a text.
func TestWriteOfEachPoint(t *testing.T) {
	for p := rune(0); p <= api.MaxPoint; {
		var list []*api.Expr
		for len(list) < api.MaxExpr-1 && p <= api.MaxPoint {
			var b strings.Builder
			for ; b.Len() <= 196 && p <= api.MaxPoint; p++ {
				if p < 0xd800 || p > 0xdfff {
					b.WriteRune(p)
				}
			}
			list = append(list, str(b.String()))
		}
		checkBack(t, "points", row(list...))
	}
}

// P102: the most there may be; 16,000 bytes of texts always have a text.
func TestWriteAtTheBounds(t *testing.T) {
	long := "a" + strings.Repeat("z", 39)
	lets, ifs, ops, calls := name(long), num(1), num(1<<63-1), num(1<<63-1)
	for range (api.MaxExpr - 1) / 2 {
		lets = let(long, lets, name(long))
		ops = op("++", num(1<<63-1), ops)
	}
	for range (api.MaxExpr - 1) / 3 {
		ifs = cond(ifs, num(1<<63-1), num(1<<63-1))
		calls = call("at", calls, name(long), name(long))
	}
	checkBack(t, "lets", lets)
	checkBack(t, "ifs", ifs)
	checkBack(t, "operators", ops)
	checkBack(t, "calls", calls)
	checkBack(t, "negs", negs(num(1), api.MaxExpr-1))
	checkBack(t, "lists", row(times(row(), api.MaxExpr-1)...))
	for _, sign := range []string{`"`, `\`, "\n", "x", "é", `\"`} {
		full := str(strings.Repeat(sign, 200/len(sign)))
		checkBack(t, "16,000 bytes", row(times(full, 80)...))
		checkBack(t, "16,000 bytes in 160 texts", row(times(str(strings.Repeat(sign, 100/len(sign))), 160)...))
		deep := full
		for range 79 {
			deep = op("-", full, deep)
		}
		checkBack(t, "16,000 bytes, nested", deep)
	}
	text := str(strings.Repeat(`"`, 200))
	lets = text
	for range (api.MaxExpr - 1) / 5 {
		lets = let(long, text, cond(name(long), lets, name(long)))
	}
	checkBack(t, "lets with texts", lets)
}

// P102: the text may have MaxText bytes, and no more.
func TestWriteAroundMaxText(t *testing.T) {
	quotes := str(strings.Repeat(`"`, 200))
	with := func(count int, last string) *api.Expr { return row(append(times(quotes, count), str(last))...) }
	length := func(count int, last string) int { return len(checkBack(t, "many quotes", with(count, last))) }
	count := 1 + (api.MaxText-length(1, ""))/(length(2, "")-length(1, ""))
	room := api.MaxText - length(count, "")
	last := strings.Repeat(`"`, room/2) + strings.Repeat("x", room%2)
	if got := length(count, last); got != api.MaxText {
		t.Errorf("%d bytes", got)
	}
	for _, e := range []*api.Expr{with(count, last+"x"), with(count, last[1:]+"xxx"), with(count+1, ""), with(api.MaxExpr-2, "")} {
		if text, err := action.Write(e); text != "" || err != api.ErrBound {
			t.Errorf("%d bytes, %v", len(text), err)
		}
	}
	checkBack(t, "as many letters as may be", row(times(str(strings.Repeat("x", 200)), api.MaxExpr-1)...))
}

// P102: ErrSyntax for what is not valid.
func TestWriteOfWhatIsNotValid(t *testing.T) {
	for what, e := range odd() {
		if text, err := action.Write(e); text != "" || err != api.ErrSyntax {
			t.Errorf("%.60s: %.60q, %v", what, text, err)
		}
	}
}
