package tongue_test

import (
	"strings"
	"testing"

	"grammarsmith/api"
	"grammarsmith/pattern"
)

// checkMarked asks for an error where a ^ stands in each text.
func checkMarked(t *testing.T, want error, l ...string) {
	t.Helper()
	for _, s := range l {
		w := marked(s)
		checkWrong(t, w.text, want, w.at)
	}
}

// P111: a text that is empty, or ends too early, is wrong at its length.
func TestReadOfWhatEndsTooEarly(t *testing.T) {
	checkMarked(t, api.ErrSyntax,
		"^", " ^", "\n\t\r^", "#^", "# only\n^", "#\xff^", "grammar^", "grammar ^", "grammar#\n^", "grammar # g^",
		"grammar g tokens :^", "grammar g tokens x^", "grammar g tokens x =^", "grammar g tokens x = `a`^", "grammar g tokens x = `a` \n^", "grammar g tokens x = `a` skip^", "grammar g tokens x = `a` push^", "grammar g tokens x = `a` push m^", "grammar g tokens x = `a` pop skip push m^", "grammar g tokens x = `a`; x^",
		"grammar g levels left^", "grammar g levels left x^", "grammar g levels left x y^", "grammar g levels left x; none^",
		"grammar g rules s^", "grammar g rules s :^", "grammar g rules s : list^", "grammar g rules s : int^", "grammar g rules s : int =^", "grammar g rules s : int = x^", "grammar g rules s : int = x %^", "grammar g rules s : int = x % y^", "grammar g rules s : int = {^", "grammar g rules s : int = { 1^", "grammar g rules s : int = { 1 ^", "grammar g rules s : int = { 1 }^", "grammar g rules s : int = { 1 } |^", "grammar g rules s : int = { 1 } | { 1 }^",
		"grammar g rules s : int = { 1 +^", "grammar g rules s : int = { (1^", "grammar g rules s : int = { let^", "grammar g rules s : int = { let x = 1^", "grammar g rules s : int = { if 1 then 2^", "grammar g rules s : int = { len(1 # )};^",
	)
}

// P111: a token that cannot stand there.
func TestReadOfWhatCannotStand(t *testing.T) {
	checkMarked(t, api.ErrSyntax,
		"^g", "^grammars g", "^tokens", "^1", "^;", "^`a`", "^\"a\"", "# grammar g\n^tokens", "grammar ^1", "grammar ^tokens", "grammar ^grammar", "grammar ^;", "grammar ^`g`", "grammar ^\"g\"", "grammar ^: g",
		"grammar g ^g", "grammar g ^;", "grammar g ^grammar h", "grammar g ^skip", "grammar g ^= `a`;", "grammar g ^left x;", "grammar g ^:", "grammar g ^x = `a`;", "grammar g ^}", "grammar g tokens ^grammar h",
	)
	checkMarked(t, api.ErrSyntax,
		"grammar g tokens ^= `a`;", "grammar g tokens ^;", "grammar g tokens ^`a`;", "grammar g tokens :^: m", "grammar g tokens : m ^: n", "grammar g tokens : ^;", "grammar g tokens : ^tokens", "grammar g tokens : m levels ^x = `a`;",
		"grammar g tokens x ^x", "grammar g tokens x ^`a`;", "grammar g tokens x ^: `a`;", "grammar g tokens x ^== `a`;", "grammar g tokens x = ^= `a`;", "grammar g tokens x = ^;", "grammar g tokens x = ^x;", "grammar g tokens x = ^\"a\";", "grammar g tokens x = ^skip;",
		"grammar g tokens x = `a` ^y = `b`;", "grammar g tokens x = `a` ^`b`;", "grammar g tokens x = `a` ^| `b`;", "grammar g tokens x = `a` ^tokens", "grammar g tokens x = `a` ^, skip;", "grammar g tokens x = `a` ^left;", "grammar g tokens x = `a` skip ^m;", "grammar g tokens x = `a` push ^;", "grammar g tokens x = `a` push ^skip;", "grammar g tokens x = `a` push ^- ;", "grammar g tokens x = `a` push ^\"\";", "grammar g tokens x = `a` push m ^n;", "grammar g tokens x = `a`; ^;", "grammar g tokens x = `a`; ^left x;",
	)
	checkMarked(t, api.ErrSyntax,
		"grammar g levels ^x;", "grammar g levels ^;", "grammar g levels ^: m left x;", "grammar g levels ^int x;", "grammar g levels ^skip x;", "grammar g levels left ^;", "grammar g levels left ^left x;", "grammar g levels left ^, x;", "grammar g levels left ^1;", "grammar g levels left x ^, y;", "grammar g levels left x ^right y;", "grammar g levels left x ^tokens", "grammar g levels left x ^1;", "grammar g levels left x^= ;", "grammar g levels left x; ^;", "grammar g levels left x; ^y;",
	)
	checkMarked(t, api.ErrSyntax,
		"grammar g rules ^: int = {1};", "grammar g rules ^;", "grammar g rules ^left : int = {1};", "grammar g rules s ^int = {1};", "grammar g rules s ^= {1};", "grammar g rules s ^s : int = {1};", "grammar g rules s : ^= {1};", "grammar g rules s : ^s = {1};", "grammar g rules s : ^none = {1};", "grammar g rules s : ^len = {1};", "grammar g rules s : ^left = {1};", "grammar g rules s : list ^= {1};", "grammar g rules s : list ^s = {1};", "grammar g rules s : int ^int = {1};", "grammar g rules s : int ^list = {1};", "grammar g rules s : list int ^list int = {1};", "grammar g rules s : int ^{1};", "grammar g rules s : int ^: {1};", "grammar g rules s : int ^== {1};",
		"grammar g rules s : int = ^;", "grammar g rules s : int = ^| {1};", "grammar g rules s : int = x^;", "grammar g rules s : int = x ^| {1};", "grammar g rules s : int = x ^, y {1};", "grammar g rules s : int = ^\"x\" {1};", "grammar g rules s : int = ^`x` {1};", "grammar g rules s : int = ^int {1};", "grammar g rules s : int = x % ^% y {1};", "grammar g rules s : int = {1} ^x {1};", "grammar g rules s : int = {1} ^{1};", "grammar g rules s : int = {1} ^% x;", "grammar g rules s : int = {1} | ^;", "grammar g rules s : int = {1} | ^| {1};", "grammar g rules s : int = {1} ^rules", "grammar g rules s : int = {1}; ^;", "grammar g rules s : int = {1}; ^{2};", "grammar g rules s : int = {1}; ^| {2};",
	)
}

// acting are texts around the action of a case.
var acting = [][2]string{{"grammar g rules s : int = { ", " };"}, {"grammar g tokens x=`a`; rules s:int={1}|x%x{", "};"}, {"grammar g rules s:int=#\n{\t", "\r} | { 2 }; u : text = { 3 }; levels"}}

// P111, P102: tokens that cannot stand in an expression.
func TestReadOfWrongExpressions(t *testing.T) {
	for _, s := range []string{
		"^}", "^;", "^|", "^:", "^`a`", "^{1}", "1 ^{", "1^;", "1 ^2", "1 ^x", "x ^x", "1 ^let x = 1 in 2", "1 ^skip", "^)", "(^)", "(1^]", "1^)", "[^,1]", "[1,^]", "[1^;",
		"^= 1", "1 ^= 2", "1 == 2 ^== 3", "1 < 2 ^== 3", "1 == 2 ^< 3", "1 + ^let x = 1 in x", "- ^if 1 then 2 else 3", "1 + ^+ 2", "1++^+2", "1==^=2", "1^= =2", "1 % ^% 2", "let x^==1 in 2", "let x = ^= 1 in 2", "let ^1 = 2 in 3", "let x ^in 2", "let x = 1 ^}", "if 1 ^else 2", "if 1 then 2 ^}",
		"len ^1", "len(^)", "len(1^,2)", "int(1^)", "int(1,2^,3)", "at(1,2^)", "at(1,2,3^,4)", "node(1^)", "text(1^,2)", "text ^}", "tag^}", "x^(1)", "skip_^(1)",
		"^in", "^then", "^else", "^grammar", "^tokens", "^levels", "^rules", "^skip", "^pop", "^push", "^left", "^right", "^none", "^list", "let ^skip = 1 in 2", "let ^list = 1 in 2", "let ^grammar = 1 in 2", "let ^text = 1 in 2", "let x = ^none in x", "1 + ^left", "[^rules]", "len(^push)",
	} {
		for _, l := range acting {
			checkMarked(t, api.ErrSyntax, l[0]+s+l[1])
		}
	}
	checkMarked(t, api.ErrSyntax, "grammar g rules s : int = {^};", "grammar g rules s : int = {#\n ^} | {1};")
}

// P111: what is no token, in each place where one may stand.
func TestReadOfWhatIsNoToken(t *testing.T) {
	tokens := strings.Fields(tokensOfAll)
	for _, s := range []string{"\xff", "\x80", "\xc3", "\xe2\x82", "\xed\xa0\x80", "é", "𝄞", "\x00", "\v", "\f", "\u00a0", "\u2028", "\ufeff", "A", "Z", "_", "_a", "!", "&", "'", ".", ">", "?", "@", "\\", "^", "~", "\x7f", "!=", "$", "$x", "$0", "$21", "00", "9223372036854775808", "\"", "\"\\q\"", "`"} {
		for i := range len(tokens) + 1 {
			ahead := strings.Join(tokens[:i], " ") + " "
			// A ` or a " behind which another one comes is a token, or the end of one that is none.
			behind := strings.NewReplacer("`", "", `"`, "").Replace(strings.Join(tokens[i:], " "))
			checkWrong(t, ahead+s, api.ErrSyntax, len(ahead))
			checkWrong(t, ahead+s+" "+behind, api.ErrSyntax, len(ahead))
		}
	}
}

// P111, P101: numbers and places that there are, and the next ones.
func TestReadOfNumbers(t *testing.T) {
	for s, want := range map[string]*api.Expr{"0": num(0), "9223372036854775807": num(1<<63 - 1), "9223372036854775806": num(1<<63 - 2), "$1": arg(1), "$20": arg(20)} {
		checkRead(t, "grammar g rules s:int={"+s+"};", within(want))
	}
	for _, s := range []string{"9223372036854775808", "18446744073709551615", "18446744073709551616", "18446744073709551617", strings.Repeat("9", 1000), "00", "01", "09223372036854775807", "$", "$0", "$00", "$01", "$21", "$020", "$9223372036854775808", "$18446744073709551617", "$x", "$ 1", "$-1"} {
		for _, l := range acting {
			checkMarked(t, api.ErrSyntax, l[0]+"^"+s+l[1], l[0]+"-^"+s+l[1], l[0]+"[1, ^"+s+"]"+l[1], l[0]+"x ^"+s+l[1])
		}
		checkMarked(t, api.ErrSyntax, "grammar ^"+s, "grammar g levels left ^"+s+";")
	}
}

// P111, P102: texts that are none, at their beginning.
func TestReadOfWrongTexts(t *testing.T) {
	for _, s := range []string{`"`, `"a`, `"\"`, "\"\n\"", "\"a\nb\"", "\"\\\n\"", `"\t"`, `"\u{61}"`, "\"\xff\"", "\"a\xe2\x82\"", "\"\xed\xa0\x80\"", "\"\\\xff\""} {
		for _, l := range acting {
			checkMarked(t, api.ErrSyntax, l[0]+"^"+s+l[1], l[0]+"[\"é\", ^"+s+"]"+l[1], l[0]+"1 ^"+s+l[1])
		}
		checkMarked(t, api.ErrSyntax, "grammar ^"+s)
	}
}

// P111: an expression that is not valid, at its first token, when all of it was read; what is wrong within it goes first.
func TestReadOfExpressionsThatAreNotValid(t *testing.T) {
	for _, s := range []string{
		"[" + strings.Repeat("1,", api.MaxExpr-1) + "1]", strings.Repeat("-", api.MaxExpr) + "1", strings.Repeat("-", 30000) + "1", "1" + strings.Repeat("+1", api.MaxExpr/2), strings.Repeat("[", 1000) + strings.Repeat("]", 1000), strings.Repeat("let x = 1 in ", api.MaxExpr/2) + "x", strings.Repeat("len(", api.MaxExpr) + "1" + strings.Repeat(")", api.MaxExpr), "(((" + strings.Repeat("-", api.MaxExpr) + "1)))",
		`"` + strings.Repeat("x", 201) + `"`, `"` + strings.Repeat("é", 101) + `"`, `"` + strings.Repeat(`\n`, 201) + `"`, `1 + "` + strings.Repeat(`\"`, 201) + `"`, `[[], len("` + strings.Repeat("`", 201) + `")]`,
	} {
		for _, l := range acting {
			checkMarked(t, api.ErrBound, l[0]+"^"+s+l[1], l[0]+"^("+s+")"+l[1], l[0]+"^"+s+"#\n"+l[1])
			checkMarked(t, api.ErrSyntax, l[0]+"("+s+"^]"+l[1], l[0]+"["+s+", ^?]"+l[1], l[0]+"("+s+" ^", l[0]+"["+s+", \"\xc3\xa9\" + ^\"\xff\"]"+l[1], l[0]+"["+s+", ^skip]"+l[1])
			checkMarked(t, api.ErrBound, l[0]+"["+s+", ^"+strings.Repeat("a", 41)+"]"+l[1])
		}
	}
	for _, s := range []string{"[" + strings.Repeat("1,", api.MaxExpr-2) + "1]", strings.Repeat("-", api.MaxExpr-1) + "1", "1" + strings.Repeat("+1", api.MaxExpr/2-1), strings.Repeat("(", 20000) + "1" + strings.Repeat(")", 20000), `"` + strings.Repeat("x", 200) + `"`, `"` + strings.Repeat(`\n`, 200) + `"`, `"` + strings.Repeat("é", 100) + `"`} {
		for _, l := range acting {
			mustRead(t, l[0]+s+l[1])
		}
	}
}

// patterned are texts around a pattern.
var patterned = [][2]string{{"grammar g tokens x = ", ";"}, {"grammar g tokens:m x=`é`;# é\ny=", "skip; rules s:int={1};"}, {"grammar g rules s:int={1}; tokens x =\t", " push x pop; z = `b`;"}}

// P111, P22: the fault of a pattern, where it stands in the text.
func TestReadOfWrongPatterns(t *testing.T) {
	open := strings.Repeat("(", api.MaxOpen)
	for _, s := range []string{
		"(", ")", "a)", "a|(b", "[", "[a", "[b-a]", "[a^]", "[a-]", "*", "a|*", "a{", "a{x}", "a{0}", "a{01}", "a{2,1}", "a{1,0}", "]", "}", "~", "a~", "é(", "é[b-a]", "\\", "a\\", "a\\q", "\\u", "\\u{}", "\\u{110000}", "\\u{1234567}", "aé\\\u00e9", "[\\u{zz}]", "a\n(",
		"a{51}", "aa{1,51}", "é{999}", "a{51,}", open + "(", open + "a[b]", strings.Repeat("~", api.MaxOpen+1) + "a", strings.Repeat("a", api.MaxWeight), "a{50}b{50}", "(((a{5}){5}){5})", strings.Repeat("~", api.MaxNest+1) + "a", "(a{60})",
	} {
		_, err := pattern.Read(s)
		fault, ours := err.(*api.Fault)
		if !ours {
			t.Fatalf("%q is a pattern", s)
		}
		for _, l := range patterned {
			checkWrong(t, l[0]+"`"+s+"`"+l[1], fault.Err, len(l[0])+1+fault.At)
			checkWrong(t, l[0]+"`"+s+"`", fault.Err, len(l[0])+1+fault.At)
			checkWrong(t, l[0]+"`"+s+"` \xff", fault.Err, len(l[0])+1+fault.At)
		}
		checkWrong(t, "grammar g rules s : int = `"+s+"` {1};", api.ErrSyntax, 26)
	}
	checkWrong(t, "grammar g tokens x = `(`;", api.ErrSyntax, 23)
	checkWrong(t, "grammar g tokens x = `a{51}`;", api.ErrBound, 24)
	checkWrong(t, "grammar g tokens x = `"+strings.Repeat("a", api.MaxWeight)+"`;", api.ErrBound, 22)
}

// P111: patterns that do not end, or have a byte that belongs to no code point, are no tokens.
func TestReadOfPatternsThatAreNone(t *testing.T) {
	for _, s := range []string{"`", "`a", "`a;", "`\xff`", "`a\x80`", "`\xe2\x82`", "`\xed\xa0\x80`", "`\\\xff`", "`(\xff`", "`\xff", "`\xf4\x90\x80\x80`", "`[\xc3`"} {
		for _, l := range patterned {
			behind := strings.ReplaceAll(l[1], "`", "")
			checkWrong(t, l[0]+s+behind, api.ErrSyntax, len(l[0]))
			checkWrong(t, l[0]+s, api.ErrSyntax, len(l[0]))
		}
		checkMarked(t, api.ErrSyntax, "^"+s, "grammar g ^"+s, "grammar g rules s : int = { ^"+s)
	}
	mustRead(t, "grammar g tokens x = `[\u00c3\ufffd]`;")
	mustRead(t, "grammar g tokens x = `a\n# b\nc`;")
}

// P111: of two things that are wrong the first from the left counts.
func TestReadOfTwoWrongThings(t *testing.T) {
	tooLong, heavy, many := strings.Repeat("a", 41), strings.Repeat("a", api.MaxWeight), strings.Repeat("-", api.MaxExpr)+"1"
	checkMarked(t, api.ErrSyntax,
		"grammar ^1 "+tooLong, "grammar g ^"+tooLong+" tokens", "grammar g ^x "+tooLong, "grammar g levels ^"+tooLong+" x;", "grammar g tokens x ^"+tooLong, "grammar g tokens x ^`"+heavy+"`;", "grammar g tokens x = `^)` "+tooLong, "grammar g tokens x = `^)`; y = `"+heavy+"`;", "grammar g tokens x = `^)a{51}`;", "grammar g rules s : ^"+tooLong+" = {1};", "grammar g rules s : int = {^skip + "+many+"};", "grammar g rules s : int = {1^)}; "+tooLong, "grammar g rules s : int = {1} | {^}; u : int = {"+many+"};", "grammar g rules s : int = { ^$0 "+tooLong+" };", "grammar g ^?`", "grammar g ^` tokens x = (", "grammar ^grammar grammar",
	)
	checkMarked(t, api.ErrBound,
		"grammar ^"+tooLong+" 1", "grammar ^"+tooLong+" "+tooLong, "grammar ^"+tooLong+"\xff", "grammar g tokens ^"+tooLong+" ?", "grammar g tokens x = `^"+heavy+"` ?", "grammar g tokens x = `^"+heavy+"`; y = `(`;", "grammar g tokens x = `a{^51}(`;", "grammar g tokens : ^"+tooLong+" x = `(`;", "grammar g levels left ^"+tooLong+" ?;", "grammar g rules s : int = {^"+tooLong+" + skip};", "grammar g rules s : int = {let ^"+tooLong+" == 1 in "+many+"};", "grammar g rules s : int = {^"+many+"} ?", "grammar g rules s : int = {^"+many+"} | {1", "grammar g rules s : int = {^"+many+"}; "+tooLong, "grammar g rules s : int = {^"+many+"} | {"+many+"};",
	)
	// An expression is looked at where it ends: ahead of what stands behind it.
	checkMarked(t, api.ErrBound, "grammar g rules s : int = { ^"+many+" ; };", "grammar g rules s : int = { ^"+many+" ?", "grammar g rules s : int = { ^"+many)
}

// P111: a text of MaxText bytes, and one more, whatever they are.
func TestReadOfLongTexts(t *testing.T) {
	full := func(s string) string { return s + strings.Repeat(" ", api.MaxText-len(s)) }
	checkRead(t, full("grammar g"), api.Spec{Name: "g"})
	checkRead(t, "#"+strings.Repeat("\xff", api.MaxText-11)+"\ngrammar g", api.Spec{Name: "g"})
	checkRead(t, full("grammar g#"), api.Spec{Name: "g"})
	checkWrong(t, full("grammar g")+" ", api.ErrBound, api.MaxText)
	checkWrong(t, full("grammar g#")+"\n", api.ErrBound, api.MaxText)
	for _, s := range []string{"", "?", "\xff", "grammar", "grammar g tokens x = `(`;"} {
		checkWrong(t, full(s)+"?", api.ErrBound, api.MaxText)
		checkWrong(t, full(s)+strings.Repeat("`", 5*api.MaxText), api.ErrBound, api.MaxText)
	}
	checkWrong(t, full(""), api.ErrSyntax, api.MaxText)
	checkWrong(t, full("?"), api.ErrSyntax, 0)
	checkWrong(t, full("grammar"), api.ErrSyntax, api.MaxText)
	checkWrong(t, full("grammar g tokens x = `"), api.ErrSyntax, 21)
	checkWrong(t, "grammar "+strings.Repeat("g", api.MaxText-8), api.ErrBound, 8)
	for _, s := range []string{"(", "[", "-", "let x = ", "if ", "len(", "1+", "at(1,2,"} {
		ahead := "grammar g rules s:int={"
		text := ahead + strings.Repeat(s, (api.MaxText-len(ahead))/len(s))
		checkWrong(t, text, api.ErrSyntax, len(text))
	}
	lists := "grammar g rules s:" + strings.Repeat("list ", 13000)
	checkWrong(t, lists, api.ErrSyntax, len(lists))
}
