package tongue_test

import (
	"strings"
	"testing"

	"grammarsmith/api"
)

var (
	a, b  = one('a'), one('b')
	whole = simple(api.Int)
)

// P110: each part, none of them, several of a kind and in any order.
func TestReadOfParts(t *testing.T) {
	pa, pb := piece("x", a), piece("y", b)
	left, right := rank(api.ToLeft, "x"), rank(api.ToRight, "y")
	s, u := sort("s", whole, makes(num(1))), sort("u", whole, makes(num(2), "x"))
	for text, want := range map[string]api.Spec{
		"grammar g":               {Name: "g"},
		"grammar g tokens x=`a`;": {Name: "g", Pieces: []api.Piece{pa}},
		"grammar g levels left x;": {
			Name: "g", Ranks: []api.Rank{left}},
		"grammar g rules s:int={1};": {
			Name: "g", Sorts: []api.Sort{s}},
		"grammar g tokens x=`a`; y=`b`; levels left x; right y; rules s:int={1}; u:int=x{2};": {
			Name: "g", Pieces: []api.Piece{pa, pb}, Ranks: []api.Rank{left, right}, Sorts: []api.Sort{s, u}},
		"grammar g rules s:int={1}; levels left x; tokens x=`a`; rules u:int=x{2}; tokens y=`b`; levels right y;": {
			Name: "g", Pieces: []api.Piece{pa, pb}, Ranks: []api.Rank{left, right}, Sorts: []api.Sort{s, u}},
		"grammar g levels right y; left x; rules u:int=x{2}; rules s:int={1}; tokens y=`b`; tokens x=`a`;": {
			Name: "g", Pieces: []api.Piece{pb, pa}, Ranks: []api.Rank{right, left}, Sorts: []api.Sort{u, s}},
		"grammar g tokens x=`a`; x=`a`; levels left x; left x; rules s:int={1}; s:int={1};": {
			Name: "g", Pieces: []api.Piece{pa, pa}, Ranks: []api.Rank{left, left}, Sorts: []api.Sort{s, s}},
	} {
		checkRead(t, text, want)
	}
}

// The document's example 11.
func TestReadOfTheExample(t *testing.T) {
	digits := &api.Re{Kind: api.RRep, Min: 1, Max: -1, Kids: []*api.Re{setOf(api.Range{Lo: '0', Hi: '9'})}}
	checkRead(t, "grammar n tokens d = `[0-9]+`; rules s : int = d { int($1, 0) };", api.Spec{
		Name: "n", Pieces: []api.Piece{piece("d", digits)}, Sorts: []api.Sort{sort("s", whole, makes(call("int", arg(1), num(0)), "d"))},
	})
}

// P110: parts without entries say nothing, wherever they stand.
func TestReadOfPartsWithoutEntries(t *testing.T) {
	none := []string{"tokens", "tokens : m", "levels", "rules"}
	for _, p := range none {
		checkRead(t, "grammar g "+p, api.Spec{Name: "g"})
		for _, q := range none {
			checkRead(t, "grammar g "+p+" "+q+"\n", api.Spec{Name: "g"})
			checkRead(t, "grammar g "+p+" tokens x=`a`; "+q, api.Spec{Name: "g", Pieces: []api.Piece{piece("x", a)}})
			checkRead(t, "grammar g "+p+" levels left x; "+q, api.Spec{Name: "g", Ranks: []api.Rank{rank(api.ToLeft, "x")}})
			checkRead(t, "grammar g "+p+" rules s:int={1}; "+q, api.Spec{Name: "g", Sorts: []api.Sort{sort("s", whole, makes(num(1)))}})
		}
	}
}

// P110: behind tokens : stands the mode of the pieces up to the end of the part.
func TestReadOfModes(t *testing.T) {
	in := func(mode, name string, p *api.Re) api.Piece {
		return api.Piece{Name: name, Mode: mode, Pattern: p, Push: "-"}
	}
	for text, want := range map[string][]api.Piece{
		"tokens x=`a`; y=`b`;":                                  {in("", "x", a), in("", "y", b)},
		"tokens : m x=`a`; y=`b`;":                              {in("m", "x", a), in("m", "y", b)},
		"tokens:m x=`a`; tokens y=`b`;":                         {in("m", "x", a), in("", "y", b)},
		"tokens x=`a`; tokens:m y=`b`;":                         {in("", "x", a), in("m", "y", b)},
		"tokens:m x=`a`; tokens:n y=`b`; tokens:m x=`b`;":       {in("m", "x", a), in("n", "y", b), in("m", "x", b)},
		"tokens:m tokens x=`a`;":                                {in("", "x", a)},
		"tokens tokens:m x=`a`;":                                {in("m", "x", a)},
		"tokens:x x=`a` push x;":                                {{Name: "x", Mode: "x", Pattern: a, Push: "x"}},
		"tokens:m x=`a`; levels rules tokens y=`b`; tokens:m":   {in("m", "x", a), in("", "y", b)},
		"tokens x=``; y=`` skip;":                               {in("", "x", cat()), {Name: "y", Pattern: cat(), Skip: true, Push: "-"}},
		"tokens x=`a#b`; y=`a b\n`;":                            {in("", "x", cat(a, one('#'), b)), in("", "y", cat(a, one(' '), b, one('\n')))},
		"tokens x=`\\u{60}`; y=`\"`;":                           {in("", "x", one('`')), in("", "y", one('"'))},
		"tokens x=`é`; y=`[\u0000\ufffd]`;":                     {in("", "x", one('é')), in("", "y", setOf(api.Range{Lo: 0, Hi: 0}, api.Range{Lo: 0xfffd, Hi: 0xfffd}))},
		"tokens x=`;`;y=`=`;":                                   {in("", "x", one(';')), in("", "y", one('='))},
		"tokens x # = `b`\n = # `b`;\n `a` # skip\n ; # y=`b`;": {in("", "x", a)},
	} {
		checkRead(t, "grammar g "+text, api.Spec{Name: "g", Pieces: want})
	}
}

// orders gives all orders of all choices of some things.
func orders(l []string) [][]string {
	out := [][]string{nil}
	for i, s := range l {
		var rest []string
		rest = append(append(rest, l[:i]...), l[i+1:]...)
		for _, o := range orders(rest) {
			out = append(out, append([]string{s}, o...))
		}
	}
	return out
}

// P110: skip, pop and push in every order, each once at most.
func TestReadOfTurns(t *testing.T) {
	all := orders([]string{"skip", "pop", "push m"})
	if len(all) != 16 {
		t.Fatalf("%d orders", len(all))
	}
	for _, turns := range all {
		said := "grammar g tokens x = `a` " + strings.Join(turns, " ")
		want := piece("x", a)
		for _, s := range turns {
			switch s {
			case "skip":
				want.Skip = true
			case "pop":
				want.Pop = true
			default:
				want.Push = "m"
			}
		}
		checkRead(t, said+";", api.Spec{Name: "g", Pieces: []api.Piece{want}})
		checkRead(t, said+"; y=`b`;", api.Spec{Name: "g", Pieces: []api.Piece{want, piece("y", b)}})
		for _, s := range turns {
			checkWrong(t, said+" "+s+";", api.ErrSyntax, len(said)+1)
			checkWrong(t, said+" "+s, api.ErrSyntax, len(said)+1)
		}
	}
	checkWrong(t, "grammar g tokens x = `a` push m push n;", api.ErrSyntax, 32)
}

// P110: each side; ranks of one name and of several.
func TestReadOfRanks(t *testing.T) {
	for word, side := range map[string]int{"left": api.ToLeft, "right": api.ToRight, "none": api.ToNone} {
		checkRead(t, "grammar g levels "+word+" x;", api.Spec{Name: "g", Ranks: []api.Rank{rank(side, "x")}})
		checkRead(t, "grammar g levels "+word+" x y x z_1;", api.Spec{Name: "g", Ranks: []api.Rank{rank(side, "x", "y", "x", "z_1")}})
		checkRead(t, "grammar g levels "+word+" x;left y;levels none z u;", api.Spec{Name: "g", Ranks: []api.Rank{rank(side, "x"), rank(api.ToLeft, "y"), rank(api.ToNone, "z", "u")}})
	}
}

// P110: each type; lists of lists, as many as a text holds.
func TestReadOfTypes(t *testing.T) {
	for word, kind := range map[string]int{"int": api.Int, "text": api.Text, "node": api.Node} {
		for _, n := range []int{0, 1, 2, 3, 10, 1000, 13000} {
			text := "grammar g rules s : " + strings.Repeat("list ", n) + word + " = {1};"
			checkRead(t, text, api.Spec{Name: "g", Sorts: []api.Sort{sort("s", lists(n, simple(kind)), makes(num(1)))}})
		}
	}
	checkRead(t, "grammar g rules s:list\tlist#\nint={1};", api.Spec{Name: "g", Sorts: []api.Sort{sort("s", lists(2, whole), makes(num(1)))}})
}

// P110: cases with and without symbols and a level.
func TestReadOfCases(t *testing.T) {
	n := num(1)
	for text, want := range map[string][]api.Case{
		"{1}":                            {makes(n)},
		"x{1}":                           {makes(n, "x")},
		"x y x{1}":                       {makes(n, "x", "y", "x")},
		"%l{1}":                          {levelled("l", n)},
		"% l {1}":                        {levelled("l", n)},
		"x y%l{1}":                       {levelled("l", n, "x", "y")},
		"{1}|{1}":                        {makes(n), makes(n)},
		"x{1}|%l{1}|{1}|y%x{1}":          {makes(n, "x"), levelled("l", n), makes(n), levelled("x", n, "y")},
		"s s{1}|{1}":                     {makes(n, "s", "s"), makes(n)},
		strings.Repeat("x ", 30) + "{1}": {makes(n, strings.Fields(strings.Repeat("x ", 30))...)},
	} {
		checkRead(t, "grammar g rules s:int="+text+";", api.Spec{Name: "g", Sorts: []api.Sort{sort("s", whole, want...)}})
		checkRead(t, "grammar g rules s:int="+text+";u:text="+text+";", api.Spec{Name: "g", Sorts: []api.Sort{sort("s", whole, want...), sort("u", simple(api.Text), want...)}})
	}
	checkWrong(t, "grammar g rules s:int=x%{1};", api.ErrSyntax, 24)
	checkWrong(t, "grammar g rules s:int=x%l l{1};", api.ErrSyntax, 26)
	checkWrong(t, "grammar g rules s:int=x%l%l{1};", api.ErrSyntax, 25)
	checkWrong(t, "grammar g rules s:int=%l x{1};", api.ErrSyntax, 25)
}

// P110, P101: expressions of each kind, with what else binds them, and the longest sign first.
func TestReadOfExpressions(t *testing.T) {
	one, two, three := num(1), num(2), num(3)
	x, y := name("x"), name("y")
	for text, want := range map[string]*api.Expr{
		"0": num(0), "9223372036854775807": num(1<<63 - 1), `""`: str(""), `"a\"\\\n#é"`: str("a\"\\\n#é"), "\"`\t\r\"": str("`\t\r"), "$1": arg(1), "$20": arg(20), "x": x,
		"let x=1in y": let("x", one, y), "if x then 1else y": cond(x, one, y), "-1": neg(one), "- -1": neg(neg(one)), "[]": row(), "[1,x]": row(one, x),
		"len(1)": call("len", one), "at(1,2,3)": call("at", one, two, three), "text(1)": call("text", one), "int(1,2)": call("int", one, two), "node(1,2)": call("node", one, two), "tag(1)": call("tag", one), "kids(1)": call("kids", one),
		"1==2": op("==", one, two), "1<2": op("<", one, two), "1+2": op("+", one, two), "1-2": op("-", one, two), "1++2": op("++", one, two), "1*2": op("*", one, two), "1/2": op("/", one, two), "1%2": op("%", one, two),
		"1++ -2": op("++", one, neg(two)), "1+-2": op("+", one, neg(two)),
		"1+2*3": op("+", one, op("*", two, three)), "(1+2)*3": op("*", op("+", one, two), three), "1-2-3": op("-", op("-", one, two), three), "1+2==3": op("==", op("+", one, two), three), "(1<2)==3": op("==", op("<", one, two), three),
		"let x = 1 in x + 2": let("x", one, op("+", x, two)), "1 + (let x = 1 in x)": op("+", one, let("x", one, x)), "((x))": x, "let x = let y = 1 in y in x": let("x", let("y", one, y), x),
		"1\t+\r2\n-# + 4\n3": op("-", op("+", one, two), three), "let#\nx#\n=#\n1#\nin#\ny": let("x", one, y), "len#\n(\t1\r)": call("len", one),
	} {
		checkRead(t, "grammar g rules s:int={"+text+"};", within(want))
		checkRead(t, "grammar g rules s:int= { "+text+"\t} ;", within(want))
		checkRead(t, "grammar g rules s:int={("+text+")};", within(want))
	}
}

// tokensOfAll are the tokens of a text with each kind of thing that the tongue has.
const tokensOfAll = "grammar g tokens : m x = `a` skip push n pop ; y = `[b]` ; levels left x y ; none x ; rules s : list int = x y % x { let v = [ 1 , $2 ] in if v == [ ] then len ( \"t\" ) else ( - 3 ) ++ v } | { 7 % 2 < 5 / 4 * 3 + 2 - 1 } ; u : node = s { node ( \"n\" , [ ] ) } ;"

func specOfAll() api.Spec {
	sum := op("-", op("+", op("*", op("/", num(5), num(4)), num(3)), num(2)), num(1))
	action := let("v", row(num(1), arg(2)), cond(op("==", name("v"), row()), call("len", str("t")), op("++", neg(num(3)), name("v"))))
	return api.Spec{
		Name:   "g",
		Pieces: []api.Piece{{Name: "x", Mode: "m", Pattern: a, Skip: true, Pop: true, Push: "n"}, {Name: "y", Mode: "m", Pattern: b, Push: "-"}},
		Ranks:  []api.Rank{rank(api.ToLeft, "x", "y"), rank(api.ToNone, "x")},
		Sorts: []api.Sort{
			sort("s", lists(1, whole), levelled("x", action, "x", "y"), makes(op("<", op("%", num(7), num(2)), sum))),
			sort("u", simple(api.Node), makes(call("node", str("n"), row()), "s")),
		},
	}
}

// P110: blanks, the points 9, 10 and 13, and comments at the beginning, between any two tokens and at the end.
func TestReadOfWhatStandsBetween(t *testing.T) {
	tokens, want := strings.Fields(tokensOfAll), specOfAll()
	checkRead(t, tokensOfAll, want)
	for _, s := range append(separators, "#\xff\n", "#\xe2\x82\n", "#\n#\n", "# grammar h\n", "#`\n", "#\"\n", "#{\r#}\n") {
		checkRead(t, strings.Join(tokens, s), want)
		for i := range len(tokens) + 1 {
			checkRead(t, strings.Join(tokens[:i], " ")+s+strings.Join(tokens[i:], " "), want)
		}
	}
	for _, s := range []string{"#", "# the end", "#\xff", "#\xc3", " #`", "#\r", "# a # b"} {
		checkRead(t, tokensOfAll+s, want)
	}
	checkRead(t, "#\xff\n"+tokensOfAll, want)
	checkWrong(t, "# "+tokensOfAll, api.ErrSyntax, len(tokensOfAll)+2)
	checkWrong(t, "#\r"+tokensOfAll, api.ErrSyntax, len(tokensOfAll)+2)
}

// P110: nothing need stand between tokens that are two without it; what would be one is.
func TestReadOfTokensSideBySide(t *testing.T) {
	tokens := strings.Fields(tokensOfAll)
	text := tokens[0]
	for i, s := range tokens[1:] {
		if wouldBeOne(tokens[i], s) {
			text += " "
		}
		text += s
	}
	checkRead(t, text, specOfAll())
	for _, s := range []string{
		"^grammarg", "grammar g tokens x=`a`^skippop;", "grammar g tokens x=`a`^pushm;", "grammar g levels ^leftx;", "grammar g rules s:^listint={1};", "grammar g rules s:int={letx^=1in x};", "grammar g rules s:int={if xthen ^1else 2};", "grammar g rules s:int={let x=1^iny};",
		"grammar g rules s:int={1 ^2};", "grammar g rules s:int={^$ 1};", "grammar g rules s:int={$1^$2};", "grammar g rules s:int={1^x};", "grammar g rules s:int={[\"\"^\"\"]};", "grammar g tokens x=`a`^`b`;",
	} {
		w := marked(s)
		checkWrong(t, w.text, api.ErrSyntax, w.at)
	}
	checkRead(t, "grammar gtokens", api.Spec{Name: "gtokens"})
	checkRead(t, "grammar g rules s:int=xy{1};", api.Spec{Name: "g", Sorts: []api.Sort{sort("s", whole, makes(num(1), "xy"))}})
	checkRead(t, "grammar g rules s:int=x1{1};", api.Spec{Name: "g", Sorts: []api.Sort{sort("s", whole, makes(num(1), "x1"))}})
}

// namePlaces are texts with a ? in each place where a name may stand.
var namePlaces = []string{
	"grammar ?", "grammar g tokens : ? x = `a`;", "grammar g tokens ? = `a`;", "grammar g tokens x=`a`; ? = `a`;", "grammar g tokens x = `a` push ?;", "grammar g tokens x = `a` skip push ? pop;",
	"grammar g levels left ?;", "grammar g levels right x ?;", "grammar g levels none ? x;", "grammar g rules ? : int = {1};", "grammar g rules s:int={1}; ? : int = {1};", "grammar g rules s:int=? {1};", "grammar g rules s:int=x ? y {1};", "grammar g rules s:int={1}|? {1};", "grammar g rules s:int=% ? {1};", "grammar g rules s:int=x % ?{1};",
	"grammar g rules s:int={?};", "grammar g rules s:int={let ? = 1 in 2};", "grammar g rules s:int={[1, 2 + -?]};", "grammar g rules s:int={let x = ? in 2};", "grammar g rules s:int={let x = 1 in ?};", "grammar g rules s:int={len(?)};", "grammar g rules s:int={if ? then ? else ?};",
}

// filled puts a word in a place for a name.
func filled(place, word string) wrong {
	return wrong{strings.ReplaceAll(place, "?", word), strings.Index(place, "?")}
}

// P110, P111: a name is any word of at most 40 bytes but the keywords, in each place where one may stand.
func TestReadOfNames(t *testing.T) {
	for _, place := range namePlaces {
		for _, s := range append([]string{"z", "a0", "a_", "a__0", "x1y2z3", "grammars", "token", "tokens2", "skip_", "lefty", "ints", "lets", "inn", "lenn", "a_t", long}, longWords(40)...) {
			if text := checkBack(t, place, mustRead(t, filled(place, s).text)); !strings.Contains(text, s) {
				t.Errorf("%q: no %s in %q", place, s, text)
			}
		}
		for _, s := range keywords {
			if w := filled(place, s); !mayStandThere(place, s) {
				checkWrong(t, w.text, api.ErrSyntax, w.at)
			}
		}
		for _, s := range longWords(41) {
			w := filled(place, s)
			checkWrong(t, w.text, api.ErrBound, w.at)
		}
		for _, s := range []string{"A", "_", "_a", "Ab", "é", "\xff", "9", "9a", `"a"`, "`a`", "$1", "$a"} {
			if w := filled(place, s); !mayStandThere(place, s) {
				checkWrong(t, w.text, api.ErrSyntax, w.at)
			}
		}
	}
}

// mayStandThere says of some words that are no names that something else may begin with them in a place.
func mayStandThere(place, word string) bool {
	action := strings.ContainsAny(place, "{") && strings.Index(place, "{") < strings.Index(place, "?") && !strings.Contains(place, "let ?") && !strings.HasSuffix(place, "{1};")
	switch word {
	case "let", "if", "len", "at", "tag", "kids", "text", "int", "node":
		return action
	case "9", "9a", `"a"`, "$1":
		return action
	case "tokens", "levels", "rules":
		return strings.Contains(place, "; ? ") || strings.Contains(place, "tokens ? ") || strings.Contains(place, "rules ? ")
	}
	return false
}

func longWords(size int) []string {
	return []string{strings.Repeat("a", size), "z" + strings.Repeat("_", size-1), "z" + strings.Repeat("0", size-1), "tokens" + strings.Repeat("s", size-6)}
}
