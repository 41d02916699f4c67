package smith_test

import (
	"strings"
	"testing"

	"grammarsmith/action"
	"grammarsmith/api"
	"grammarsmith/parse"
	"grammarsmith/smith"
)

// P121: a token that is of no rule, wherever it stands: the first such, ahead of all else that is wrong.
func TestRunOfPiecesOfNoRule(t *testing.T) {
	x := mustNew(t, sums)
	for s, at := range map[string]int{
		"?": 0, "?1": 0, "? 1 + 2": 0, "1 ? 2": 2, "1 + 2?": 5, "1 + 2 ?": 6, "1 + ?": 4, "+ + ?": 4, "1 1 x y": 4, "é": 0, "1é": 1, "1 +\n2": 3, "1 + 2\n": 5, "\xff": 0, "1\xff": 1, "1 + \xe2\x82": 4, "1 \xed\xa0\x80": 2, "1 + 2 \x00": 6,
	} {
		checkUnread(t, x, s, api.ErrSyntax, at)
	}
}

// P121: a token that cannot stand there, or the end of the text.
func TestRunOfWhatIsNoSentence(t *testing.T) {
	x := mustNew(t, sums)
	for s, at := range map[string]int{
		"": 0, "   ": 3, "+": 0, "  +": 2, "1 +": 3, "1 +  ": 5, "1 1": 2, "12 34": 3, "1 + + 2": 4, "1+*2": 2, "1 + 2 3 4": 6, "1 + 2 *": 7, "* ": 0, "10 + 20 30 *": 8,
	} {
		checkUnread(t, x, s, api.ErrEnd, at)
	}
	// Of operators of a rank to no side no two stand beside one another.
	y := mustNew(t, "grammar g tokens n = `n`; e = `=`; levels none e; rules s : text = s e s { $1 ++ $3 } | n { $1 };")
	checkRun(t, y, "n=n", words("nn"))
	checkUnread(t, y, "n=n=n", api.ErrEnd, 3)
	checkUnread(t, y, "n=n=", api.ErrEnd, 3)
}

// P121: more reductions than may be ahead of one token.
func TestRunOfTooManyReductions(t *testing.T) {
	x := mustNew(t, "grammar g tokens a = `a`; b = `b`; rules s : int = a s { 1 + $2 } | a { 1 } | s2 b { $1 }; s2 : int = b { 0 };")
	// What stands last takes one reduction, what is ahead of it one each.
	checkRun(t, x, strings.Repeat("a", api.MaxReduce), whole(api.MaxReduce))
	checkUnread(t, x, strings.Repeat("a", api.MaxReduce+1), api.ErrBound, api.MaxReduce+1)
	y := mustNew(t, "grammar g tokens a = `a`; b = `b`; c = `c` skip; rules u : int = s b { $1 }; s : int = a s { 1 + $2 } | a { 1 };")
	checkRun(t, y, strings.Repeat("a", api.MaxReduce)+"cb", whole(api.MaxReduce))
	checkUnread(t, y, strings.Repeat("a", api.MaxReduce+1)+"cb", api.ErrBound, api.MaxReduce+2)
	checkUnread(t, y, strings.Repeat("a", api.MaxReduce+1)+"c", api.ErrEnd, api.MaxReduce+2)
}

// P121: what is left out has no value, and may stand anywhere.
func TestRunOfSkippedPieces(t *testing.T) {
	x := mustNew(t, "grammar g tokens word = `[a-z]+`; blank = `[ \\n]+` skip; comment = `#[^\\n]*` skip; rules s : list text = { [] } | s word { $1 ++ [$2] };")
	checkRun(t, x, "", many())
	checkRun(t, x, " \n # only\n", many())
	checkRun(t, x, "#a\nb c#d\n  e#", many(words("b"), words("c"), words("e")))
	checkUnread(t, x, "#a\nb 7", api.ErrSyntax, 5)
	y := mustNew(t, "grammar g tokens blank = ` ` skip; a = `a`; dot = `\\.` skip; b = `b`; rules s : text = a b { $1 ++ $2 };")
	checkRun(t, y, " a . b. ", words("ab"))
	checkUnread(t, y, ". .b", api.ErrEnd, 3)
}

// P121: modes: texts within quotes have blanks that count, and what is within braces in them is read as outside.
func TestRunOfModes(t *testing.T) {
	x := mustNew(t, "grammar g tokens open = `\"` push inner; word = `[a-z]+`; blank = ` +` skip; close_brace = `\\}` pop;"+
		"tokens : inner close = `\"` pop; plain = `[^\"{}]+`; open_brace = `\\{` push code; tokens : code name = `[a-z]+`; gap = ` +` skip; end = `\\}` pop; again = `\"` pop push inner;"+
		"rules all : list text = { [] } | all one { $1 ++ $2 }; one : list text = word { [$1] } | open quoted close { $2 }; quoted : list text = { [] } | quoted part { $1 ++ $2 };"+
		"part : list text = plain { [\"<\" ++ $1 ++ \">\"] } | open_brace names end { $2 } | open_brace names again { $2 ++ [\"again\"] }; names : list text = { [] } | names name { $1 ++ [$2] };")
	list := func(l ...string) api.Value {
		v := many()
		for _, s := range l {
			v.List = append(v.List, words(s))
		}
		return v
	}
	checkRun(t, x, `a "b  c" d`, list("a", "<b  c>", "d"))
	checkRun(t, x, `"a {b  c} d" e`, list("<a >", "b", "c", "< d>", "e"))
	checkRun(t, x, `"{}" f`, list("f"))
	checkRun(t, x, `"{a"b c"`, list("a", "again", "<b c>"))
	checkUnread(t, x, `a } b`, api.ErrEnd, 2)
	checkUnread(t, x, `"a`, api.ErrEnd, 2)
	checkUnread(t, x, `"a}"`, api.ErrSyntax, 2)
	checkUnread(t, x, `"{a {"`, api.ErrSyntax, 4)
	// Only pieces of other modes: in that which holds first each point is of no rule.
	y := mustNew(t, "grammar g tokens : m a = `a`; rules s : int = { 1 } | a { 2 };")
	checkRun(t, y, "", whole(1))
	checkUnread(t, y, "a", api.ErrSyntax, 0)
}

// P121, P10: bytes that belong to no code point are FFFD, each, where a piece stands for that.
func TestRunOfBytesOfNoCodePoint(t *testing.T) {
	x := mustNew(t, "grammar g tokens a = `[^ ]+`; b = ` ` skip; rules s : list text = { [] } | s a { $1 ++ [$2] };")
	for s, want := range map[string][]string{
		"\xff": {"\ufffd"}, "a\xff\xfe b": {"a\ufffd\ufffd", "b"}, "\xe2\x82 \xac": {"\ufffd\ufffd", "\ufffd"}, "\xe2\x82\xac": {"€"}, "\xed\xa0\x80": {"\ufffd\ufffd\ufffd"}, "é\xc3 \xa9": {"é\ufffd", "\ufffd"}, "\ufffd": {"\ufffd"}, "\x00": {"\x00"}, "\xf4\x90\x80\x80": {"\ufffd\ufffd\ufffd\ufffd"},
	} {
		v := many()
		for _, s := range want {
			v.List = append(v.List, words(s))
		}
		checkRun(t, x, s, v)
	}
	y := mustNew(t, "grammar g tokens a = `a`; any = `\\u{fffd}` skip; rules s : int = { 0 } | a { 1 };")
	checkRun(t, y, "\xff\ufffda\x80", whole(1))
	checkUnread(t, y, "\xffb", api.ErrSyntax, 1)
}

// P121: values of each type.
func TestRunOfEachType(t *testing.T) {
	for _, c := range []struct {
		of, action string
		want       api.Value
	}{
		{"int", "int($1, 0 - 1) * 2", whole(24)},
		{"text", "$1 ++ \"!\" ++ text(len($1))", words("12!2")},
		{"node", "node($1, [node(\"a\", []), node(\"\", [])])", knot("12", knot("a"), knot(""))},
		{"list int", "[]", many()},
		{"list int", "[1, len($1)]", many(whole(1), whole(2))},
		{"list text", "[$1] ++ [$1]", many(words("12"), words("12"))},
		{"list list int", "[[], [3]]", many(many(), many(whole(3)))},
		{"list list int", "[[]]", many(many())},
		{"list node", "[node(\"a\", [])]", many(knot("a"))},
		{"int", "let x = $1 in if x == \"12\" then 9223372036854775807 + 1 else 0", whole(-1 << 63)},
	} {
		x := mustNew(t, "grammar g tokens d = `[0-9]+`; rules s : "+c.of+" = d { "+c.action+" };")
		checkRun(t, x, "12", c.want)
		of := simple(map[string]int{"int": api.Int, "text": api.Text, "node": api.Node}[strings.TrimPrefix(strings.TrimPrefix(c.of, "list "), "list ")])
		if v, _ := x.Run("12"); !action.Has(v, lists(strings.Count(c.of, "list "), of)) {
			t.Errorf("%s: %+v is of another type", c.of, v)
		}
	}
}

// P120, P121: the levels of operators say how a text is read.
func TestRunByLevels(t *testing.T) {
	x := mustNew(t, "grammar g tokens n = `[0-9]+`; plus = `\\+`; minus = `-`; times = `\\*`; power = `\\^`; open = `\\(`; close = `\\)`;"+
		"levels left plus minus; left times; right power; none high; tokens high = `!`;"+
		"rules e : text = e plus e { \"(\" ++ $1 ++ $2 ++ $3 ++ \")\" } | e minus e { \"(\" ++ $1 ++ $2 ++ $3 ++ \")\" } | e times e { \"(\" ++ $1 ++ $2 ++ $3 ++ \")\" } | e power e { \"(\" ++ $1 ++ $2 ++ $3 ++ \")\" } | minus e % high { \"(-\" ++ $2 ++ \")\" } | open e close { $2 } | n { $1 };")
	for s, want := range map[string]string{
		"1+2+3": "((1+2)+3)", "1-2+3": "((1-2)+3)", "1+2*3": "(1+(2*3))", "1*2+3": "((1*2)+3)", "2^3^4": "(2^(3^4))", "2*3^4*5": "((2*(3^4))*5)", "-2^3": "((-2)^3)", "-1*2": "((-1)*2)", "1--2": "(1-(-2))", "-(1+2)*3": "((-(1+2))*3)",
	} {
		checkRun(t, x, s, words(want))
	}
}

// P122: leaves are the numbers of tokens, without those that are skipped.
func TestTree(t *testing.T) {
	x := mustNew(t, sums)
	for s, want := range map[string]string{
		"1": "(2 0)", "  1  ": "(2 0)", "1+2": "(0 (2 0) 1 (2 2))", " 1 + 2 * 3 ": "(0 (2 0) 1 (1 (2 2) 3 (2 4)))", "1 * 2 + 3": "(0 (1 (2 0) 1 (2 2)) 3 (2 4))", "1+2+3": "(0 (0 (2 0) 1 (2 2)) 3 (2 4))",
	} {
		tree, err := x.Tree(s)
		if err != nil || parse.Show(tree) != want {
			t.Errorf("%q: %s, %v, want %s", s, parse.Show(tree), err, want)
		}
	}
	y := mustNew(t, "grammar g rules s : int = { 1 };")
	if tree, err := y.Tree(""); err != nil || parse.Show(tree) != "(0)" {
		t.Errorf("%s, %v", parse.Show(tree), err)
	}
}

// P122: of what a tool is made.
func TestParts(t *testing.T) {
	x := mustNew(t, sums)
	g := api.Grammar{Terms: 3, Names: 1, Prods: []api.Prod{{Right: []int{-1, 1, -1}, Level: 1}, {Right: []int{-1, 2, -1}, Level: 2}, {Right: []int{0}}}, Levels: []int{0, 1, 2}, Sides: []int{api.ToLeft, api.ToLeft}}
	if !same(x.Grammar(), g) {
		t.Errorf("%+v", x.Grammar())
	}
	some := &api.Re{Kind: api.RRep, Min: 1, Max: -1}
	digits, blanks := *some, *some
	digits.Kids, blanks.Kids = []*api.Re{setOf(api.Range{Lo: '0', Hi: '9'})}, []*api.Re{one(' ')}
	rules := []api.Rule{{Name: "n", Re: &digits, Push: -1}, {Name: "p", Re: one('+'), Push: -1}, {Name: "m", Re: one('*'), Push: -1}, {Name: "b", Re: &blanks, Skip: true, Push: -1}}
	if !same(x.Rules(), rules) {
		t.Errorf("%+v", x.Rules())
	}
	if got := x.Table(); !parse.Fits(g, got) || len(got.Conflicts) != 0 || len(got.Acts) != 7 || got.Acts[0][0].Kind != api.ActShift {
		t.Errorf("%+v", got)
	}
	y := mustNew(t, "grammar g tokens a = `a` pop push m skip; tokens : m b = `b` push m; rules s : int = b u { 1 } | { 2 }; u : int = b { 1 };")
	if r := y.Rules(); len(r) != 2 || r[0].Name != "a" || !r[0].Skip || !r[0].Pop || r[0].Push != 1 || r[0].Mode != 0 || r[1].Name != "b" || r[1].Skip || r[1].Pop || r[1].Push != 1 || r[1].Mode != 1 {
		t.Errorf("%+v", r)
	}
	if g := y.Grammar(); !same(g, api.Grammar{Terms: 1, Names: 2, Prods: []api.Prod{{Right: []int{0, -2}}, {}, {Left: 1, Right: []int{0}}}, Levels: []int{0}}) {
		t.Errorf("%+v", g)
	}
}

// levelsOf gives the levels of a grammar's terminals, and of its productions.
func levelsOf(x *smith.Tool) (terms, prods []int) {
	g := x.Grammar()
	for _, p := range g.Prods {
		prods = append(prods, p.Level)
	}
	return g.Levels, prods
}

// P120, 4: levels of terminals by their ranks, and of productions: their own, or that of their last terminal.
func TestLevels(t *testing.T) {
	pieces := "grammar g tokens a = `a`; x = `x` skip; b = `b`; c = `c`; d = `d`; "
	for _, c := range []struct {
		ranks, cases string
		terms, prods []int
	}{
		{"", "a { 1 }", []int{0, 0, 0, 0}, []int{0}},
		{"levels left b;", "a { 1 } | b { 1 } | a b { 1 } | b a { 1 }", []int{0, 1, 0, 0}, []int{0, 1, 1, 0}},
		{"levels left d b; right a;", "a { 1 } | b { 1 } | a b { 1 } | b a { 1 } | c { 1 } | a c { 1 }", []int{2, 1, 0, 1}, []int{2, 1, 1, 2, 0, 0}},
		{"levels none c; levels left a; right d;", "{ 1 } | c s d { 1 } | a b s { 1 } | b c a s { 1 }", []int{2, 0, 1, 3}, []int{0, 3, 0, 2}},
		{"levels none c; left a;", "a % c { 1 } | b % a { 1 } | c % b { 1 } | % a { 1 } | a c % d { 1 }", []int{2, 0, 1, 0}, []int{1, 2, 0, 2, 0}},
	} {
		x := mustNew(t, pieces+c.ranks+" rules s : int = "+c.cases+";")
		terms, prods := levelsOf(x)
		if !same(terms, c.terms) || !same(prods, c.prods) || len(x.Grammar().Sides) != strings.Count(c.ranks, ";") {
			t.Errorf("%s %s: %v, %v", c.ranks, c.cases, terms, prods)
		}
	}
	if g := mustNew(t, pieces+"levels right a; none b; left c; rules s : int = a { 1 };").Grammar(); !same(g.Sides, []int{api.ToRight, api.ToNone, api.ToLeft}) {
		t.Errorf("%v", g.Sides)
	}
}
