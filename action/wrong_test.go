package action_test

import (
	"errors"
	"strings"
	"testing"

	"grammarsmith/action"
	"grammarsmith/api"
)

// checkWrong asks for an error at a place, and for nothing beside it.
func checkWrong(t *testing.T, text string, want error, at int) {
	t.Helper()
	e, err := action.Read(text)
	fault, ours := err.(*api.Fault)
	if e != nil || !ours || fault.Err != want || !errors.Is(err, want) || fault.At != at {
		if ours {
			t.Errorf("Read(%.60q) = %v, %v at %d, want %v at %d", text, e, err, fault.At, want, at)
		} else {
			t.Errorf("Read(%.60q) = %v, %v, want %v at %d", text, e, err, want, at)
		}
	}
}

type wrong struct {
	text string
	at   int
}

func checkSyntax(t *testing.T, l []wrong) {
	t.Helper()
	for _, c := range l {
		checkWrong(t, c.text, api.ErrSyntax, c.at)
	}
}

// P102: tokens that cannot stand there.
func TestReadOfWhatCannotStand(t *testing.T) {
	checkSyntax(t, []wrong{
		{")", 0}, {"]", 0}, {",", 0}, {"=", 0}, {"==", 0}, {"+", 0}, {"++", 0}, {"*", 0}, {"<", 0}, {"in", 0}, {"then", 0}, {"else", 0}, {"()", 1}, {"( )", 2}, {"(]", 1}, {"1)", 1}, {"1]", 1}, {"1 1", 2}, {"1 a", 2}, {"a a", 2}, {"a(1)", 1}, {"a (", 2}, {"1(", 1}, {"\"\"(", 2}, {"1 let", 2}, {"1 if", 2}, {"1 in", 2}, {"1 len(1)", 2}, {"1=2", 1}, {"1,2", 1}, {"1a", 1}, {"1[", 1}, {"$1a", 2}, {"$1$2", 2}, {"\"\"\"\"", 2}, {"a\"", 1},
		{"1+*2", 2}, {"1+ +2", 3}, {"1+++2", 3}, {"1++++2", 3}, {"1**2", 2}, {"1*/2", 2}, {"-*1", 1}, {"-)", 1}, {"1<=2", 2}, {"1=<2", 1}, {"1===2", 3}, {"1====2", 3}, {"1-+2", 2}, {"-+2", 1},
		{"1==2==3", 4}, {"1<2<3", 3}, {"1==2<3", 4}, {"1<2==3", 3}, {"1 == 2 + 3 == 4", 11}, {"(1 == 2 < 3)", 8}, {"(1==2)==3==4", 9}, {"1==(2==3)==4", 9}, {"[1==2==3]", 5}, {"let a = 1 == 2 == 3 in a", 15}, {"if 1 < 2 < 3 then 1 else 2", 9}, {"if 1 then 2 else 1 == 2 == 3", 24},
		{"1 + let a = 1 in a", 4}, {"1 * let a = 1 in a", 4}, {"1 == let a = 1 in a", 5}, {"- let a = 1 in a", 2}, {"1 + if 1 then 2 else 3", 4}, {"1 % if 1 then 2 else 3", 4}, {"1 < if 1 then 2 else 3", 4}, {"-if 1 then 2 else 3", 1}, {"1 ++ -let a = 1 in a", 6}, {"[1 + let a = 1 in a]", 5},
		{"let", 3}, {"let 1", 4}, {"let let", 4}, {"let in", 4}, {"let len", 4}, {"let len = 1 in 2", 4}, {"let kids = 1 in 2", 4}, {"let (a) = 1 in 2", 4}, {"let a", 5}, {"let a 1", 6}, {"let a == 1", 6}, {"let a = ", 8}, {"let a = in 1", 8}, {"let a = 1", 9}, {"let a = 1 a", 10}, {"let a = 1, 2", 9}, {"let a = 1 in", 12}, {"let a = 1 in in", 13}, {"let a = 1 then", 10}, {"let a = let b = 1 in b", 22}, {"let a b = 1 in 2", 6}, {"let $1 = 2 in 3", 4}, {"let \"a\" = 1 in 2", 4},
		{"if", 2}, {"if then", 3}, {"if 1", 4}, {"if 1 else 2", 5}, {"if 1 then", 9}, {"if 1 then 2", 11}, {"if 1 then 2 then 3", 12}, {"if 1 then 2 else", 16}, {"if 1 then 2 else else", 17}, {"if 1 then 2 else 3 else 4", 19}, {"if 1 in 2", 5}, {"if 1, 2", 4},
		{"[", 1}, {"[,", 1}, {"[1", 2}, {"[1,", 3}, {"[1,]", 3}, {"[1,,2]", 3}, {"[1 2]", 3}, {"[1)", 2}, {"[,1]", 1}, {"[[1]", 4}, {"[]]", 2}, {"[](", 2}, {"[]1", 2}, {"(1,2)", 2}, {"(1", 2}, {"((1)", 4}, {"(1))", 3}, {"(1 2)", 3}, {"(", 1}, {"((((", 4},
	})
}

// P102: a function takes as many kids as it takes.
func TestReadOfWrongCalls(t *testing.T) {
	checkSyntax(t, []wrong{
		{"len", 3}, {"len 1", 4}, {"len[1]", 3}, {"len + 1", 4}, {"len(", 4}, {"len()", 4}, {"len(,", 4}, {"len(1", 5}, {"len(1,", 5}, {"len(1,2)", 5}, {"len(1 2)", 6}, {"len(1]", 5}, {"len(1))", 6}, {"len len(1)", 4}, {"len(len)", 7}, {"(len)(1)", 4},
		{"int()", 4}, {"int(1)", 5}, {"int(1,)", 6}, {"int(1,2", 7}, {"int(1,2,", 7}, {"int(1,2,3)", 7}, {"node(1)", 6}, {"node(1,2,3)", 8}, {"at()", 3}, {"at(1)", 4}, {"at(1,2)", 6}, {"at(1,2,)", 7}, {"at(1,2,3,4)", 8}, {"at(1,2,3,", 8}, {"at(1,,2)", 5}, {"text(1,2)", 6}, {"tag(1,2)", 5}, {"kids(1,2)", 6}, {"kids()", 5},
		{"at([1, 2], 0)", 12}, {"at([1, 2], 0, 9, 1)", 15}, {"[len(1, 2)]", 6}, {"len(let a = 1 in a, 2)", 18}, {"at(1, let a = 2 in a)", 20}, {"at(len(1, 2), 3)", 8},
	})
}

// P102: numbers and places that the table does not have; digits in a row are one token.
func TestReadOfWrongNumbers(t *testing.T) {
	checkSyntax(t, []wrong{
		{"00", 0}, {"01", 0}, {"007", 0}, {"0 0", 2}, {"9223372036854775808", 0}, {"-9223372036854775808", 1}, {"18446744073709551616", 0}, {"1 + 09", 4}, {"1 09", 2}, {"99999999999999999999999999", 0}, {"09223372036854775807", 0}, {"[1,02]", 3}, {"0x1", 1}, {"1_0", 1}, {"1.5", 1}, {"1e5", 1}, {"٣", 0}, {"1٣", 1},
		{"$", 0}, {"$ 1", 0}, {"$0", 0}, {"$00", 0}, {"$01", 0}, {"$21", 0}, {"$100", 0}, {"$020", 0}, {"$9223372036854775808", 0}, {"$18446744073709551617", 0}, {"$a", 0}, {"$$1", 0}, {"$-1", 0}, {"1 + $0", 4}, {"1 $0", 2}, {"[$1,$21]", 4}, {"$\xff", 0}, {"$1٣", 2},
	})
	checkWrong(t, strings.Repeat("1", api.MaxText), api.ErrSyntax, 0)
	checkWrong(t, "1 + $"+strings.Repeat("1", 1000), api.ErrSyntax, 4)
	mustRead(t, "$20")
	mustRead(t, "9223372036854775807")
}

// P102: texts that do not end, with escapes that are none, with the point 10, or with a byte that belongs to no code point: all at their beginning.
func TestReadOfWrongTexts(t *testing.T) {
	for _, s := range []string{`"`, `"a`, `"\`, `"\"`, `"\\\"`, `"\a"`, `"\t"`, `"\N"`, `"\0"`, `"\ "`, `"\é"`, `"\u{61}"`, "\"\n\"", "\"a\nb\"", "\"\\\n\"", "\"\n", "\"\xff\"", "\"a\x80\"", "\"\xc3\"", "\"\xe2\x82\"", "\"\xed\xa0\x80\"", "\"\xc0\x80\"", "\"\xf4\x90\x80\x80\"", "\"\xff", "\"\\\xff\"", "\"a\\n\\q\"", `"'`, `"a b c`} {
		checkWrong(t, s, api.ErrSyntax, 0)
		checkWrong(t, "é"+s, api.ErrSyntax, 0)
		checkWrong(t, "[\"é\", "+s, api.ErrSyntax, 7)
		checkWrong(t, "1 + "+s, api.ErrSyntax, 4)
		checkWrong(t, "1 "+s, api.ErrSyntax, 2)
	}
	checkSyntax(t, []wrong{{`"a"b`, 3}, {`"a""`, 3}, {`"a" "`, 4}, {`"\\""`, 4}, {`'a'`, 0}, {"`a`", 0}})
}

// P102: what is no token at all, in each place where one may stand; blanks are 32 and 10 alone.
func TestReadOfWhatIsNoToken(t *testing.T) {
	for _, b := range []string{"\xff", "\x80", "\xc3", "\xe2\x82", "\xed\xa0\x80", "é", "𝄞", "\x00", "\t", "\r", "\u00a0", "\u2028", "A", "Z", "_", "_a", "!", "#", "&", "'", ".", ":", ";", ">", "?", "@", "\\", "^", "`", "{", "|", "}", "~", "\x7f", "!="} {
		for _, ahead := range []string{"", " ", "\n", "1", "1 ", "a ", "a", "$1", `"a"`, "1+", "1 == 2", "-", "(", "(1", "(1)", "[", "[1", "[1,", "[]", "let", "let ", "let a", "let a =", "let a = 1", "let a = 1 in", "if", "if 1", "if 1 then", "if 1 then 1 else", "len", "len(", "len(1", "len(1)", "at(1,"} {
			// A _ behind a word is a part of it.
			if b[0] == '_' && ahead != "" && ahead[len(ahead)-1] >= 'a' && ahead[len(ahead)-1] <= 'z' {
				continue
			}
			checkWrong(t, ahead+b, api.ErrSyntax, len(ahead))
			checkWrong(t, ahead+b+" 1", api.ErrSyntax, len(ahead))
		}
	}
}

// P102: a text that ends too early is wrong at its length.
func TestReadOfTextsCutOff(t *testing.T) {
	tokens := strings.Fields(`let a = [ 1 , "x\"y" , - ( $2 * 3 ) ] in if at ( a , 0 , 12 ) == ( 4 + 5 ) then len ( a ) else ( node ( "n" , [ ] ) ++ ( let b = 1 in b ) )`)
	mustRead(t, strings.Join(tokens, " "))
	for i := range tokens {
		begun := strings.Join(tokens[:i], " ")
		checkWrong(t, begun, api.ErrSyntax, len(begun))
		checkWrong(t, begun+" \n ", api.ErrSyntax, len(begun)+3)
		checkWrong(t, begun+" ?", api.ErrSyntax, len(begun)+1)
		checkWrong(t, begun+` "x\`, api.ErrSyntax, len(begun)+1)
	}
	checkSyntax(t, []wrong{{"", 0}, {" ", 1}, {"\n\n", 2}, {"1 +  ", 5}, {"(1 \n", 4}})
}

// P102: more than MaxText bytes, whatever they are.
func TestReadOfTooLongTexts(t *testing.T) {
	for _, s := range []string{"1" + strings.Repeat(" ", api.MaxText), strings.Repeat("(", api.MaxText+1), strings.Repeat("\xff", api.MaxText+1), strings.Repeat("1", api.MaxText*2), ")" + strings.Repeat(" ", api.MaxText)} {
		checkWrong(t, s, api.ErrBound, api.MaxText)
	}
	for _, c := range []struct {
		text string
		at   int
	}{{strings.Repeat("(", api.MaxText), api.MaxText}, {strings.Repeat("-", api.MaxText), api.MaxText}, {strings.Repeat("[", api.MaxText), api.MaxText}, {strings.Repeat("\xff", api.MaxText), 0}, {strings.Repeat(" ", api.MaxText), api.MaxText}, {strings.Repeat("(", api.MaxText-1) + ")", api.MaxText - 1}, {`"` + strings.Repeat("a", api.MaxText-1), 0}} {
		checkWrong(t, c.text, api.ErrSyntax, c.at)
	}
}

// P102: ErrBound at 0 for what is not valid, when all of it was read; what is wrong in the text goes first.
func TestReadOfWhatIsNotValid(t *testing.T) {
	long := "a" + strings.Repeat("z", 40)
	for _, s := range []string{
		"[" + strings.Repeat("1,", api.MaxExpr-1) + "1]", strings.Repeat("-", api.MaxExpr) + "1", strings.Repeat("-", api.MaxText-1) + "1", "1" + strings.Repeat("+1", api.MaxExpr/2), "[" + strings.Repeat("[],", api.MaxText/3-1) + "[]]", strings.Repeat("[", 1000) + strings.Repeat("]", 1000),
		strings.Repeat("len(", api.MaxExpr) + "1" + strings.Repeat(")", api.MaxExpr), strings.Repeat("let a = 1 in ", api.MaxExpr/2) + "a", "  " + strings.Repeat("-", api.MaxExpr) + "1",
		long, "[1, " + long + "]", "let " + long + " = 1 in 2", strings.Repeat("a", api.MaxText), `"` + strings.Repeat("x", 201) + `"`, `1 + "` + strings.Repeat(`\"`, 201) + `"`, `"` + strings.Repeat("é", 101) + `"`,
	} {
		checkWrong(t, s, api.ErrBound, 0)
		if len(s) < api.MaxText/2 {
			checkWrong(t, s+")", api.ErrSyntax, len(s))
			checkWrong(t, s+" ]", api.ErrSyntax, len(s)+1)
			checkWrong(t, "("+s, api.ErrSyntax, len(s)+1)
			checkWrong(t, "("+s+")", api.ErrBound, 0)
		}
	}
	mustRead(t, "1"+strings.Repeat("+1", api.MaxExpr/2-1))
	mustRead(t, strings.Repeat("let a = 1 in ", api.MaxExpr/2-1)+"a")
}
