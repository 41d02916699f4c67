package pattern_test

import (
	"errors"
	"strings"
	"testing"
	"unicode/utf8"

	"grammarsmith/api"
	"grammarsmith/pattern"
)

// checkWrong asks for an error at a place, and for nothing beside it.
func checkWrong(t *testing.T, text string, want error, at int) {
	t.Helper()
	p, err := pattern.Read(text)
	fault, ours := err.(*api.Fault)
	if p != nil || !ours || fault.Err != want || !errors.Is(err, want) || fault.At != at {
		if ours {
			t.Errorf("Read(%.60q) = %v, %v at %d, want %v at %d", text, p, err, fault.At, want, at)
		} else {
			t.Errorf("Read(%.60q) = %v, %v, want %v at %d", text, p, err, want, at)
		}
	}
}

// P22: what cannot stand, and texts that end too early.
func TestReadOfWhatCannotStand(t *testing.T) {
	for _, c := range []struct {
		text string
		at   int
	}{
		{"(", 1}, {"(a", 2}, {"((a)", 4}, {"(a|", 3}, {"a(b&", 4}, {")", 0}, {"a)", 1}, {"(a))", 3}, {"())a(", 2},
		{"*", 0}, {"+", 0}, {"?", 0}, {"{2}", 0}, {"a|*", 2}, {"a&+", 2}, {"(?)", 1}, {"a|b)", 3},
		{"}", 0}, {"a}", 1}, {"]", 0}, {"a]", 1}, {"[a]]", 3}, {"a{2}}", 4},
		{"~", 1}, {"a~", 2}, {"~|a", 1}, {"~)", 1}, {"(~)", 2}, {"~*", 1}, {"~&", 1}, {"~~", 2}, {"~]", 1}, {"~{1}", 1},
		{"[", 1}, {"[^", 2}, {"[a", 2}, {"[a-", 3}, {"[a-b", 4}, {"[a[", 2}, {"[[]", 1}, {"[-]", 1}, {"[-a]", 1}, {"[a-]", 3},
		{"[a-b-c]", 4}, {"[a--]", 3}, {"[^-]", 2}, {"[^^]", 2}, {"[a^]", 2}, {"[a-^]", 3}, {"[]]", 2}, {"[a-[]", 3}, {"é)", 2}, {"[é-", 4}, {"𝄞[é-]", 8},
	} {
		checkWrong(t, c.text, api.ErrSyntax, c.at)
	}
}

// P22: counts.
func TestReadOfWrongCounts(t *testing.T) {
	for _, c := range []struct {
		text string
		want error
		at   int
	}{
		{"a{", api.ErrSyntax, 2}, {"a{}", api.ErrSyntax, 2}, {"a{x}", api.ErrSyntax, 2}, {"a{,3}", api.ErrSyntax, 2}, {"a{-1}", api.ErrSyntax, 2}, {"a{ 1}", api.ErrSyntax, 2}, {"a{{", api.ErrSyntax, 2},
		{"a{2", api.ErrSyntax, 3}, {"a{2,", api.ErrSyntax, 4}, {"a{2,3", api.ErrSyntax, 5}, {"a{0", api.ErrSyntax, 3}, {"a{0,", api.ErrSyntax, 4},
		{"a{2x", api.ErrSyntax, 3}, {"a{2 }", api.ErrSyntax, 3}, {"a{2,x}", api.ErrSyntax, 4}, {"a{2,3x}", api.ErrSyntax, 5}, {"a{2,3,}", api.ErrSyntax, 5}, {"a{2,,3}", api.ErrSyntax, 4}, {"a{0x}", api.ErrSyntax, 3},
		{"a{0}", api.ErrSyntax, 2}, {"a{0,0}", api.ErrSyntax, 4}, {"a{3,0}", api.ErrSyntax, 4}, {"a{3,2}", api.ErrSyntax, 4}, {"a{50,49}", api.ErrSyntax, 5}, {"a{3,2x", api.ErrSyntax, 4}, {"a{3,2", api.ErrSyntax, 4},
		{"a{01}", api.ErrSyntax, 2}, {"a{00}", api.ErrSyntax, 2}, {"a{051}", api.ErrSyntax, 2}, {"a{1,02}", api.ErrSyntax, 4}, {"a{0,00}", api.ErrSyntax, 4}, {"a{01", api.ErrSyntax, 2}, {"é{01}", api.ErrSyntax, 3},
		{"a{51}", api.ErrBound, 2}, {"a{51,}", api.ErrBound, 2}, {"a{51,50}", api.ErrBound, 2}, {"a{1,51}", api.ErrBound, 4}, {"a{100}", api.ErrBound, 2}, {"a{51", api.ErrBound, 2}, {"a{51x", api.ErrBound, 2},
		{"a{50}", nil, 0}, {"a{99999999999999999999999999}", api.ErrBound, 2}, {"a{1,99999999999999999999999999}", api.ErrBound, 4}, {"a{18446744073709551617}", api.ErrBound, 2},
		{"()" + strings.Repeat("{1}", 5) + "{0}", api.ErrSyntax, 18}, {"a{٣}", api.ErrSyntax, 2}, {"a{1٣}", api.ErrSyntax, 3},
	} {
		if c.want == nil {
			mustRead(t, c.text)
		} else {
			checkWrong(t, c.text, c.want, c.at)
		}
	}
}

// P22: escapes are wrong at their stroke, wherever they break off.
func TestReadOfWrongEscapes(t *testing.T) {
	wrong := []string{
		`\`, `\a`, `\x`, `\N`, `\T`, `\U{61}`, `\0`, `\,`, `\=`, `\/`, `\é`, "\\\n", "\\\x00", "\\`",
		`\u`, `\u{`, `\u{6`, `\u{61`, `\u{10FFFF`, `\u61`, `\u61}`, `\a61}`, `\u}`, `\u(61)`, `\u{}`, `\u{g}`, `\u{6g}`, `\u{ 61}`, `\u{61 }`, `\u{+61}`, `\u{-1}`, `\u{0x61}`, `\u{6_1}`, `\u{{61}}`, `\u{é}`,
		`\u{110000}`, `\u{FFFFFF}`, `\u{0000061}`, `\u{0000000}`, `\u{10FFFFF}`, `\u{FFFFFFFFFFFFFFFFFFFFFF}`, "\\u{6\xff}", "\\u\xff", "\\u{\xff", "\\u{61\xff}",
	}
	for _, e := range wrong {
		checkWrong(t, e, api.ErrSyntax, 0)
		checkWrong(t, "é("+e, api.ErrSyntax, 3)
		checkWrong(t, "["+e, api.ErrSyntax, 1)
		checkWrong(t, "[a-"+e, api.ErrSyntax, 3)
		checkWrong(t, "~"+e, api.ErrSyntax, 1)
		if e != `\` {
			checkWrong(t, e+`)`, api.ErrSyntax, 0)
			checkWrong(t, "["+e+`]`, api.ErrSyntax, 1)
		}
	}
	checkWrong(t, `[\u{}-a]`, api.ErrSyntax, 1)
	checkWrong(t, `[\u{62}-\u{61`, api.ErrSyntax, 8)
	checkWrong(t, `\u{6\u{61}`, api.ErrSyntax, 0)
}

// P22: items whose second point is below the first.
func TestReadOfWrongItems(t *testing.T) {
	for _, c := range []struct {
		text string
		at   int
	}{
		{"[b-a]", 1}, {"[^b-a]", 2}, {"[a-cz-y]", 4}, {"[b-a", 1}, {"[b-a\xff", 1}, {"[éb-a]", 3}, {"[é-a]", 1}, {`[\u{62}-\u{61}]`, 1}, {`[x\n-\t]`, 2}, {`[\u{10FFFF}-\u{0}]`, 1}, {`a[b-\-]`, 2},
	} {
		checkWrong(t, c.text, api.ErrSyntax, c.at)
	}
}

// P22: a byte that belongs to no code point, at each place where it may stand.
func TestReadOfBrokenBytes(t *testing.T) {
	for _, b := range []string{"\xff", "\x80", "\xc3", "\xe2\x82", "\xf0\x9d\x84", "\xed\xa0\x80", "\xc0\x80", "\xf4\x90\x80\x80"} {
		for _, ahead := range []string{
			"", "a", "é", "a|", "a&", "(", "(a", "(a)", "~", "~a", ".", "a*", "a+", "a?", "[", "[^", "[a", "[a-", "[a-b", "[a]", "[]",
			"a{", "a{2", "a{0", "a{2,", "a{2,3", "a{2}", `\`, `a\`, `[\`, `[a-\`, `~\`, `\n`, `\u{61}`, "[é-",
		} {
			checkWrong(t, ahead+b, api.ErrSyntax, len(ahead))
			checkWrong(t, ahead+b+"a", api.ErrSyntax, len(ahead))
			checkWrong(t, ahead+b+"]})", api.ErrSyntax, len(ahead))
		}
		checkWrong(t, `\u`+b, api.ErrSyntax, 0)
		checkWrong(t, `\u{`+b, api.ErrSyntax, 0)
		checkWrong(t, `\u{6`+b+`}`, api.ErrSyntax, 0)
	}
}

// P22: a text that is cut off is wrong at its end, but within an escape at its stroke; so is what cannot stand there.
func TestReadOfTextsCutOff(t *testing.T) {
	const text = `~((a|[^é-\u{1D11E}\]x]{1,34}|𝄞{5,})&.?~[]\n\|()*)`
	mustRead(t, text)
	for at := range text {
		begun := text[:at]
		stroke := strings.LastIndexByte(begun, '\\')
		if stroke >= 0 {
			end := stroke + 2
			if strings.HasPrefix(text[stroke:], `\u`) {
				end = stroke + strings.IndexByte(text[stroke:], '}') + 1
			}
			if at >= end {
				stroke = -1
			}
		}
		if stroke >= 0 {
			checkWrong(t, begun, api.ErrSyntax, stroke)
		} else if at == 0 {
			mustRead(t, begun)
		} else {
			checkWrong(t, begun, api.ErrSyntax, at)
		}
	}
}

// P22: ErrBound by what is open, at the sign that is one too many.
func TestReadOfTooManyOpen(t *testing.T) {
	const most = api.MaxOpen
	for _, opening := range []string{strings.Repeat("(", most), strings.Repeat("~", most), strings.Repeat("(~", most/2), strings.Repeat("(a|", most)} {
		for _, sign := range []string{"(", "[", "~"} {
			checkWrong(t, opening+sign, api.ErrBound, len(opening))
			checkWrong(t, opening+sign+"\xff", api.ErrBound, len(opening))
		}
		checkWrong(t, opening, api.ErrSyntax, len(opening))
		checkWrong(t, opening+"*", api.ErrSyntax, len(opening))
	}
	brackets := strings.Repeat("(", most) + "[a]" + strings.Repeat(")", most)
	checkWrong(t, brackets, api.ErrBound, most)
	mustRead(t, brackets[1:len(brackets)-1])
	checkWrong(t, strings.Repeat("(", 5000), api.ErrBound, most)
	checkWrong(t, strings.Repeat("~", api.MaxText), api.ErrBound, most)
	checkWrong(t, strings.Repeat("(", most-1)+"~a~(", api.ErrBound, most+2)
}

// P22: ErrBound at 0 for what is not valid, when all of it was read.
func TestReadOfWhatIsTooHeavy(t *testing.T) {
	for _, s := range []string{
		strings.Repeat("a", api.MaxWeight), strings.Repeat("|", api.MaxWeight-1), "a{50}{2}", "(a{30}){2}", "(aa){30}", "~" + strings.Repeat("a", api.MaxWeight-1),
		strings.Repeat("~", api.MaxNest+1) + "a", strings.Repeat("~", api.MaxOpen) + "a", "a" + strings.Repeat("*", api.MaxNest+1), "a" + strings.Repeat("*", api.MaxText-1), strings.Repeat("a", api.MaxText),
		strings.Repeat("(~", api.MaxOpen/2) + "a" + strings.Repeat(")", api.MaxOpen/2),
	} {
		checkWrong(t, s, api.ErrBound, 0)
	}
	checkWrong(t, strings.Repeat("a", api.MaxWeight)+")", api.ErrSyntax, api.MaxWeight)
	checkWrong(t, "a{50}{2}{51}", api.ErrBound, 9)
}

// P22: ErrBound at MaxText ahead of all else.
func TestReadOfTooLongTexts(t *testing.T) {
	const most = api.MaxText
	for _, s := range []string{"[" + strings.Repeat("a", most-1) + "]", strings.Repeat(")", most+1), strings.Repeat("\xff", most+1), strings.Repeat("a", most-1) + "é", strings.Repeat("(", 3*most)} {
		checkWrong(t, s, api.ErrBound, most)
	}
	checkWrong(t, strings.Repeat(")", most), api.ErrSyntax, 0)
	checkWrong(t, strings.Repeat("a", most-1)+")", api.ErrSyntax, most-1)
	checkWrong(t, "["+strings.Repeat("a", most-1), api.ErrSyntax, most)
}

// P1, P3: whatever the text is, there is a valid pattern or a fault within the text.
func TestReadOfAnyText(t *testing.T) {
	const signs = "|&*+?{}~()[].\\-^au,012\xc3\xa9\xff"
	d := &dice{seed: 3}
	for range 100000 {
		text := make([]byte, d.next(12))
		for i := range text {
			text[i] = signs[d.next(len(signs))]
		}
		s := string(text)
		p, err := pattern.Read(s)
		if err == nil {
			if !pattern.Ok(p) || !utf8.ValidString(s) {
				t.Fatalf("Read(%q) = %+v", s, p)
			}
			continue
		}
		fault, ours := err.(*api.Fault)
		if p != nil || !ours || fault.At < 0 || fault.At > len(s) || fault.Err != api.ErrSyntax && fault.Err != api.ErrBound {
			t.Fatalf("Read(%q) = %v, %#v", s, p, err)
		}
	}
}
