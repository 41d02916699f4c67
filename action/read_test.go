package action_test

import (
	"strings"
	"testing"

	"grammarsmith/action"
	"grammarsmith/api"
)

func checkRead(t *testing.T, s string, want *api.Expr) {
	t.Helper()
	got, err := action.Read(s)
	if err != nil || !same(got, want) {
		text, _ := action.Write(got)
		t.Errorf("Read(%.200q) = %.200q, %v", s, text, err)
	}
}

// P102: each kind alone.
func TestReadOfEachKind(t *testing.T) {
	for s, want := range map[string]*api.Expr{
		"0": num(0), "7": num(7), "10": num(10), "9223372036854775807": num(1<<63 - 1), "$1": arg(1), "$20": arg(20), "$9": arg(9),
		`""`: str(""), `"a"`: str("a"), `"a b"`: str("a b"), `"\""`: str(`"`), `"\\"`: str(`\`), `"\n"`: str("\n"), `"\\n"`: str(`\n`), `"\\\""`: str(`\"`), `"\\\\"`: str(`\\`), `"a\nb"`: str("a\nb"), `"$1 + let"`: str("$1 + let"), "\"é𝄞\ufffd\"": str("é𝄞\ufffd"), "\"\x00\t\r\x7f`'\"": str("\x00\t\r\x7f`'"),
		"a": name("a"), "a_1": name("a_1"), "z": name("z"), "lets": name("lets"), "i": name("i"), "ifx": name("ifx"), "in2": name("in2"), "then_": name("then_"), "els": name("els"), "length": name("length"), "at1": name("at1"), "le": name("le"),
		"let a = 1 in b": let("a", num(1), name("b")), "if 1 then 2 else 3": cond(num(1), num(2), num(3)),
		"1==2": op("==", num(1), num(2)), "1<2": op("<", num(1), num(2)), "1+2": op("+", num(1), num(2)), "1-2": op("-", num(1), num(2)), "1++2": op("++", num(1), num(2)), "1*2": op("*", num(1), num(2)), "1/2": op("/", num(1), num(2)), "1%2": op("%", num(1), num(2)),
		"-1": neg(num(1)), "[]": row(), "[1]": row(num(1)), "[1,2,3]": row(num(1), num(2), num(3)), "[[],[1]]": row(row(), row(num(1))),
		"len(1)": call("len", num(1)), "at(1,2,3)": call("at", num(1), num(2), num(3)), "text(1)": call("text", num(1)), "int(1,2)": call("int", num(1), num(2)), "node(1,2)": call("node", num(1), num(2)), "tag(1)": call("tag", num(1)), "kids(1)": call("kids", num(1)),
	} {
		checkRead(t, s, want)
		checkRead(t, "("+s+")", want)
		checkRead(t, " \n "+s+" \n\n", want)
	}
}

// P102, P101: operators, the loosest first, from the left; let and if take all that follows.
func TestReadOfOperators(t *testing.T) {
	one, two, three := num(1), num(2), num(3)
	a, b := name("a"), name("b")
	for s, want := range map[string]*api.Expr{
		"1+2*3": op("+", one, op("*", two, three)), "1*2+3": op("+", op("*", one, two), three), "(1+2)*3": op("*", op("+", one, two), three), "1*(2+3)": op("*", one, op("+", two, three)),
		"1-2-3": op("-", op("-", one, two), three), "1-(2-3)": op("-", one, op("-", two, three)), "1-2+3": op("+", op("-", one, two), three), "1+2-3": op("-", op("+", one, two), three), "1++2+3": op("+", op("++", one, two), three), "1+2++3": op("++", op("+", one, two), three), "1++2++3": op("++", op("++", one, two), three), "1++(2++3)": op("++", one, op("++", two, three)),
		"1/2*3": op("*", op("/", one, two), three), "1*2/3": op("/", op("*", one, two), three), "1%2%3": op("%", op("%", one, two), three), "1%(2/3)": op("%", one, op("/", two, three)),
		"1+2==3": op("==", op("+", one, two), three), "1==2+3": op("==", one, op("+", two, three)), "1<2*3": op("<", one, op("*", two, three)), "1++2<3": op("<", op("++", one, two), three), "(1==2)==3": op("==", op("==", one, two), three), "1==(2<3)": op("==", one, op("<", two, three)), "(1<2)+3": op("+", op("<", one, two), three),
		"-1+2": op("+", neg(one), two), "-1*2": op("*", neg(one), two), "1*-2": op("*", one, neg(two)), "1--2": op("-", one, neg(two)), "1- - -2": op("-", one, neg(neg(two))), "--1": neg(neg(one)), "-(1+2)": neg(op("+", one, two)), "-(1*2)": neg(op("*", one, two)), "-1==-2": op("==", neg(one), neg(two)), "1+-2": op("+", one, neg(two)), "1++-2": op("++", one, neg(two)), "-len(1)": neg(call("len", one)), "-[]": neg(row()), "-\"\"": neg(str("")),
		"let a = 1 in a + 2": let("a", one, op("+", a, two)), "let a = 1 in a == 2": let("a", one, op("==", a, two)), "(let a = 1 in a) + 2": op("+", let("a", one, a), two), "1 + (let a = 2 in a)": op("+", one, let("a", two, a)), "let a = 1 in let b = 2 in a": let("a", one, let("b", two, a)), "let a = let b = 1 in b in a": let("a", let("b", one, b), a), "let a = if 1 then 2 else 3 in a": let("a", cond(one, two, three), a), "let a = 1 < 2 in a": let("a", op("<", one, two), a), "let a=1in a": let("a", one, a),
		"if 1 then 2 else 3 + 1": cond(one, two, op("+", three, one)), "if 1 then 2 else 3 == 1": cond(one, two, op("==", three, one)), "(if 1 then 2 else 3) == 1": op("==", cond(one, two, three), one), "if 1 == 2 then a < 1 else 3": cond(op("==", one, two), op("<", a, one), three), "if if 1 then 2 else 3 then 1 else 2": cond(cond(one, two, three), one, two), "if 1 then if 2 then 3 else 1 else 2": cond(one, cond(two, three, one), two), "if 1 then 2 else if 2 then 3 else 1": cond(one, two, cond(two, three, one)), "if let a = 1 in a then let b = 2 in b else let a = 3 in a": cond(let("a", one, a), let("b", two, b), let("a", three, a)),
		"-(let a = 1 in a)": neg(let("a", one, a)), "-(if 1 then 2 else 3)": neg(cond(one, two, three)), "[let a = 1 in a, if 1 then 2 else 3]": row(let("a", one, a), cond(one, two, three)), "len(let a = 1 in a)": call("len", let("a", one, a)), "int(if 1 then 2 else 3, 1 == 2)": call("int", cond(one, two, three), op("==", one, two)), "((((1))))": one, "(((1)+((2))))": op("+", one, two), "[(1)]": row(one), "[((1)), (2)]": row(one, two), "len((1))": call("len", one),
	} {
		checkRead(t, s, want)
	}
}

// P102: the longest token first; blanks and the point 10 may stand between tokens, and must where two would be one.
func TestReadOfTokens(t *testing.T) {
	for s, want := range map[string]*api.Expr{
		"1+ +2": nil, "a==b": op("==", name("a"), name("b")), "a= =b": nil, "leta=1inb": nil, "let a=1 in b": let("a", num(1), name("b")), "let a=1inb": nil, "if1then 2else 3": nil, "if 1then 2else 3": cond(num(1), num(2), num(3)), "if$1then$2else$3": cond(arg(1), arg(2), arg(3)), "if(1)then(2)else(3)": cond(num(1), num(2), num(3)), "if\"\"then\"\"else\"\"": cond(str(""), str(""), str("")), "if[]then[]else[]": cond(row(), row(), row()), "if-1then-1else-1": cond(neg(num(1)), neg(num(1)), neg(num(1))),
		"len(a)": call("len", name("a")), "len (a)": call("len", name("a")), "len\n(\na\n)\n": call("len", name("a")), "l en(a)": nil, "\n1\n+\n2\n": op("+", num(1), num(2)), "1 0": nil, "$ 1": nil, "$1 0": nil, "$10": arg(10), "+ +": nil, "a b": nil, "ab": name("ab"), "a1": name("a1"), "1a": nil, "1 a": nil, "a 1": nil, "[1,2]": row(num(1), num(2)), "[ 1 , 2 ]": row(num(1), num(2)), "[\n]": row(), "( 1 )": num(1), "- 1": neg(num(1)), "-\n1": neg(num(1)),
		"\" a \"": str(" a "), "\"a\"\"b\"": nil, "1\t": nil, "\t1": nil, "1\r\n": nil, "1\u00a0": nil,
	} {
		if want == nil {
			if e, err := action.Read(s); err == nil || e != nil {
				t.Errorf("Read(%q) = %+v, %v", s, e, err)
			}
		} else {
			checkRead(t, s, want)
		}
	}
}

// P102: what is just as much as may be.
func TestReadAtTheBounds(t *testing.T) {
	ones := strings.Repeat("1,", api.MaxExpr-2)
	checkRead(t, "["+ones+"1]", row(times(num(1), api.MaxExpr-1)...))
	checkRead(t, strings.Repeat("-", api.MaxExpr-1)+"1", negs(num(1), api.MaxExpr-1))
	long := "a" + strings.Repeat("z", 39)
	checkRead(t, long, name(long))
	checkRead(t, "let "+long+" = 1 in "+long, let(long, num(1), name(long)))
	checkRead(t, `"`+strings.Repeat("é", 100)+`"`, str(strings.Repeat("é", 100)))
	checkRead(t, `"`+strings.Repeat(`\n`, 200)+`"`, str(strings.Repeat("\n", 200)))
	checkRead(t, strings.Repeat(" ", api.MaxText-1)+"1", num(1))
	checkRead(t, "1"+strings.Repeat("\n", api.MaxText-1), num(1))
	half := (api.MaxText - 2) / 2
	checkRead(t, strings.Repeat("(", half)+"12"+strings.Repeat(")", half), num(12))
}
