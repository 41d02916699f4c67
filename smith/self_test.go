package smith_test

import (
	"errors"
	"reflect"
	"regexp"
	"strconv"
	"strings"
	"testing"
	"unicode/utf8"

	"grammarsmith/api"
	"grammarsmith/scan"
	"grammarsmith/smith"
	"grammarsmith/tongue"
)

var (
	between = regexp.MustCompile("^(?:[ \t\n\r]+|#[^\n]*)+")
	token   = regexp.MustCompile("^(?:[a-z][a-z0-9_]*|[0-9]+|\\$[0-9]*|\"(?:[^\"\\\\\n]|\\\\[\"\\\\n])*\"|`[^`]*`|==|\\+\\+|[;:|{}()\\[\\],=<+\\-*/%])")
)

// span is the bytes of a token.
type span struct{ from, to int }

// cut gives the tokens of a text by P110's words, up to what is none, and whether that is all of it.
func cut(s string) ([]span, bool) {
	var out []span
	at := 0
	for {
		at += len(between.FindString(s[at:]))
		if at == len(s) {
			return out, true
		}
		found := token.FindString(s[at:])
		if found == "" || !isToken(found) {
			return out, false
		}
		out = append(out, span{at, at + len(found)})
		at += len(found)
	}
}

// isToken looks at numbers: those that P101 has not are none.
func isToken(s string) bool {
	digits, place := strings.CutPrefix(s, "$")
	if !place && !isDigit(s[0]) {
		return true
	}
	n, err := strconv.ParseInt(digits, 10, 64)
	return err == nil && strconv.FormatInt(n, 10) == digits && (!place || n >= 1 && n <= api.MaxRight)
}

// speech holds the tongue's own tool against tongue.Read.
type speech struct {
	*testing.T
	tool    *smith.Tool
	scanner *scan.Scanner
	right   int           // how many texts there were of which Read has no error
	wrong   map[error]int // and of which it has one
}

func newSpeech(t *testing.T, tool *smith.Tool) *speech {
	scanner, err := scan.New(tool.Rules())
	if err != nil {
		t.Fatal(err)
	}
	return &speech{T: t, tool: tool, scanner: scanner, wrong: map[error]int{}}
}

// check asks all of P123 of a text.
func (p *speech) check(s string) {
	p.Helper()
	if !utf8.ValidString(s) || len(s) > api.MaxText {
		p.Fatalf("%.300q is no text of which something is promised", s)
	}
	tokens, all := cut(s)
	if all {
		p.checkTokens(s, tokens)
	}
	want, err := tongue.Read(s)
	v, runErr := p.tool.Run(s)
	switch {
	case err == nil:
		p.right++
		got, said := smith.Said(v)
		if runErr != nil || !said || !reflect.DeepEqual(got, want) {
			p.Fatalf("%.300q: %v at %d, %v, %+v, want %+v", s, runErr, placeOf(runErr), said, got, want)
		}
		return
	case errors.Is(err, api.ErrBound):
		p.wrong[api.ErrBound]++
		return
	}
	p.wrong[api.ErrSyntax]++
	if runErr == nil {
		if got, said := smith.Said(v); said || !reflect.DeepEqual(got, api.Spec{}) {
			p.Fatalf("%.300q: %+v is said, but %v at %d", s, got, err, placeOf(err))
		}
	}
	if at := placeOf(err); at == len(s) || isBeginning(tokens, at) {
		p.wrong[api.ErrEnd]++
		if !errors.Is(runErr, api.ErrEnd) || placeOf(runErr) != at {
			p.Fatalf("%.300q: %v at %d, but %v at %d", s, runErr, placeOf(runErr), err, at)
		}
	}
}

func isBeginning(tokens []span, at int) bool {
	for _, k := range tokens {
		if k.from == at {
			return true
		}
	}
	return false
}

func (p *speech) checkTokens(s string, want []span) {
	p.Helper()
	var got []span
	for _, k := range p.scanner.Scan(s) {
		if k.Rule < 0 {
			p.Fatalf("%.300q: a token of no rule at %d", s, k.From)
		}
		got = append(got, span{k.From, k.To})
	}
	if !reflect.DeepEqual(got, want) {
		p.Fatalf("%.300q: tokens are %v, want %v", s, got, want)
	}
}

// enough asks that there were so many texts of each kind.
func (p *speech) enough(right, syntax, end, bound int) {
	p.Helper()
	if p.right < right || p.wrong[api.ErrSyntax] < syntax || p.wrong[api.ErrEnd] < end || p.wrong[api.ErrBound] < bound {
		p.Errorf("only %d right ones, wrong ones %v", p.right, p.wrong)
	}
}

// P123: Self is a text of the tongue of which New makes a tool that reads it.
func TestSelf(t *testing.T) {
	s := smith.Self()
	if len(s) > 20000 || !utf8.ValidString(s) || s != smith.Self() {
		t.Fatalf("%d bytes", len(s))
	}
	p := newSpeech(t, selfTool(t))
	p.check(s)
	p.enough(1, 0, 0, 0)
}

// P123: the tool of what Self says of itself is a tool of the tongue again, also when that was written and read: it reads each text the same.
func TestSelfAgain(t *testing.T) {
	first := selfTool(t)
	v, err := first.Run(smith.Self())
	if err != nil {
		t.Fatal(err)
	}
	said, ok := smith.Said(v)
	if !ok {
		t.Fatal("Self says nothing")
	}
	second, err := smith.From(said)
	if err != nil {
		t.Fatal(err)
	}
	written, err := tongue.Write(said)
	if err != nil || len(written) > api.MaxText {
		t.Fatalf("%d bytes, %v", len(written), err)
	}
	third := mustNew(t, written)
	d := &dice{seed: 11}
	for range 400 {
		tokens := d.tokensOf(d.spec())
		if d.happens() {
			tokens[d.next(len(tokens))] = d.stray()
		}
		s := joined(d, tokens)
		want, wantErr := first.Run(s)
		for _, x := range []*smith.Tool{second, third} {
			got, err := x.Run(s)
			if !sameValue(got, want) || (err == nil) != (wantErr == nil) || placeOf(err) != placeOf(wantErr) {
				t.Fatalf("%q: %v at %d, was %v at %d", s, err, placeOf(err), wantErr, placeOf(wantErr))
			}
		}
	}
	for _, x := range []*smith.Tool{second, third} {
		p := newSpeech(t, x)
		p.check(smith.Self())
		p.check(written)
		p.check(sums)
	}
}

// P123: what texts of all kinds say, in whichever way they say it.
func TestSaidOfManyTexts(t *testing.T) {
	p, d := newSpeech(t, selfTool(t)), &dice{seed: 12}
	for range 1200 {
		s := joined(d, d.tokensOf(d.spec()))
		if len(s) > api.MaxText-50 {
			continue
		}
		p.check(s)
		p.check(s + pick(d, separators...))
		p.check(s + "# the end")
	}
	p.enough(3400, 0, 0, 0)
}

// P123: texts in which a token is another one, is missing, or is there twice.
func TestSaidOfBentTexts(t *testing.T) {
	p, d := newSpeech(t, selfTool(t)), &dice{seed: 13}
	for range 4000 {
		tokens := d.tokensOf(d.spec())
		for range 1 + d.next(2) {
			i := d.next(len(tokens))
			switch d.next(5) {
			case 0:
				tokens = append(tokens[:i:i], tokens[i+1:]...)
			case 1:
				tokens = append(tokens[:i+1:i+1], tokens[i:]...)
			case 2:
				j := d.next(len(tokens))
				tokens[i], tokens[j] = tokens[j], tokens[i]
			case 3:
				tokens[i] = d.stray()
			case 4:
				tokens = append(append(tokens[:i:i], d.stray()), tokens[i:]...)
			}
			if len(tokens) == 0 {
				break
			}
		}
		if s := joined(d, tokens); len(s) <= api.MaxText {
			p.check(s)
		}
	}
	p.enough(200, 2000, 2000, 6)
}

// P123: texts that are cut off, between tokens and within them.
func TestSaidOfTextsCutOff(t *testing.T) {
	p, d := newSpeech(t, selfTool(t)), &dice{seed: 14}
	for range 30 {
		s := joined(d, d.tokensOf(d.spec()))
		for i := range min(len(s), 800) {
			if utf8.RuneStart(s[i]) {
				p.check(s[:i])
			}
		}
	}
	p.enough(300, 4000, 4000, 0)
}

// beginnings are texts from which all short ways on are tried.
var beginnings = []string{
	"", "grammar n", "grammar n tokens n = `p`", "grammar n tokens n = `p` skip", "grammar n tokens n = `p` push n", "grammar n tokens n = `p` push n pop", "grammar n tokens n = `p` push n ; n", "grammar n tokens : n", "grammar n levels left n", "grammar n levels none n ; ", "grammar n rules n : list", "grammar n rules n : int = n", "grammar n rules n : int = % n {",
	"grammar n rules n : text = { 7", "grammar n rules n : text = { 7 == 7", "grammar n rules n : text = { - 7 <", "grammar n rules n : text = { let n = 7", "grammar n rules n : text = { if 7 then 7", "grammar n rules n : text = { 7 } |", "grammar n rules n : int = { int ( 7", "grammar n rules n : int = { at ( 7 , 7", "grammar n rules n : int = { len ( 7", "grammar n rules n : int = { [ 7 , 7 ] } ;", "grammar n rules n : int = { [ - - ",
}

// P123: from some beginnings on, all ways to go on by up to three tokens.
func TestSaidOfAllWaysOn(t *testing.T) {
	p, d := newSpeech(t, selfTool(t)), &dice{seed: 15}
	tokens := append([]string{"n", "7", "\"t\"", "$3", "`p`", "?", "07", "$0"}, append(keywords, signs...)...)
	for _, s := range beginnings {
		level := []string{s}
		for range 3 {
			var next []string
			for _, s := range level {
				for _, k := range tokens {
					longer := s + " " + k
					p.check(longer)
					if _, err := tongue.Read(longer); err == nil || placeOf(err) == len(longer) {
						next = append(next, longer)
					}
				}
			}
			if len(next) > 150 {
				for i := range 150 {
					j := i + d.next(len(next)-i)
					next[i], next[j] = next[j], next[i]
				}
				next = next[:150]
			}
			level = next
		}
	}
	p.enough(200, 60000, 60000, 0)
}

// P123, P110: all of the tokens, side by side, with nothing between them where they would not be one.
func TestTokensOfTheTongue(t *testing.T) {
	p := newSpeech(t, selfTool(t))
	tokens := append(append([]string{"n", "in1", "x_", "a9", long, strings.Repeat("b", 60), "7", "0", "10", "9223372036854775807", "$1", "$9", "$10", "$19", "$20", "\"\"", "\"a\"", "\"\\\"\\\\\\n\"", "\"é`#;\"", "``", "`a`", "`\"#;\n\\`", "`é|𝄞`"}, keywords...), signs...)
	for _, a := range tokens {
		for _, b := range tokens {
			s := a + " " + b
			if !wouldBeOne(a, b) {
				s = a + b
			}
			want := []span{{0, len(a)}, {len(s) - len(b), len(s)}}
			p.checkTokens(s, want)
			if got, all := cut(s); !all || !reflect.DeepEqual(got, want) {
				t.Fatalf("%q is cut into %v", s, got)
			}
			ahead := "#" + strings.ReplaceAll(s, "\n", "") + "\n\r\t"
			p.checkTokens(ahead+a+"#"+strings.ReplaceAll(b, "\n", ""), []span{{len(ahead), len(ahead) + len(a)}})
		}
	}
	for s, want := range map[string][]span{"": nil, " ": nil, "# only": nil, "===": {{0, 2}, {2, 3}}, "+++": {{0, 2}, {2, 3}}, "++++": {{0, 2}, {2, 4}}, "= =": {{0, 1}, {2, 3}}, "1a": {{0, 1}, {1, 2}}, "a1": {{0, 2}}, "$1a": {{0, 2}, {2, 3}}, "$20$2": {{0, 3}, {3, 5}}, "0x": {{0, 1}, {1, 2}}, "\"a\"\"b\"": {{0, 3}, {3, 6}}, "`a``b`": {{0, 3}, {3, 6}}, "a#b\nc": {{0, 1}, {4, 5}}, "grammars": {{0, 8}}, "at1": {{0, 3}}} {
		p.checkTokens(s, want)
	}
}

// P123: texts as long as they may be.
func TestSaidOfLongTexts(t *testing.T) {
	p := newSpeech(t, selfTool(t))
	// fill is a text of about as many bytes as there may be, with one part as often as it has room.
	fill := func(ahead, often, behind string) string {
		return ahead + strings.Repeat(often, (api.MaxText-len(ahead)-len(behind))/len(often)) + behind
	}
	rules := "grammar g rules s:int="
	for _, s := range []string{
		fill("grammar g", " ", ""), fill("grammar g #", "é", ""), fill("", "# \n", "grammar g"), fill("grammar g ", "rules ", ""), fill("grammar g tokens ", "a=``;", ""), fill("grammar g ", "tokens:a ", ""), fill("grammar g tokens x=``", " skip pop push a;x=``", ";"),
		fill("grammar g levels ", "left a;", ""), fill("grammar g levels left a ", "a ", ";"), fill("grammar g rules s:", "list ", "int={1};"), fill(rules, "a ", "{1};"), fill(rules+"{1}", "|{1}", ";"), fill("grammar g rules ", "s:int={1};", ""),
		rules + "{" + strings.Repeat("(", 32000) + "1" + strings.Repeat(")", 32000) + "};", rules + "{" + strings.Repeat("-", 199) + "1};", fill("grammar g tokens x=`a", "#\n", "`;"),
	} {
		p.check(s)
	}
	p.enough(15, 0, 0, 0)
	for _, s := range []string{
		fill(rules+"{", "(", ""), fill(rules+"{", "[", ""), fill(rules+"{", "-", ""), fill(rules+"{", "if ", ""), fill(rules+"{", "let x=", ""), fill(rules+"{", "len(", ""), fill(rules+"{", "at(1,2,", ""), fill(rules+"{[", "1,", ""), fill(rules+"{", "1+", ""), fill("grammar g rules s:", "list ", ""), fill(rules, "a ", ""), fill(rules+"{1}", "|{1}", ""), fill("grammar g tokens ", "a=``;", "a"),
		// All that is open might end where a } stands, but for the [ around it: so many reductions there are at once, and no more than there may be.
		fill(rules+"{[", "-", "1}"), fill(rules+"{[", "let x=1in ", "1}"), fill(rules+"{[", "if 1then 1else ", "1}"), fill(rules+"{[", "let x=1in-", "1}"), fill(rules+"{[", "1+", "1}"), fill(rules+"{[", "1*", "1}"), fill(rules+"{(", "1,", "1}"), fill(rules+"{[", "(-", "1}"), fill("grammar g rules s:", "list ", "}"), fill(rules+"{[let x=1in ", "-", "1==1}"),
	} {
		p.check(s)
	}
	p.enough(15, 23, 23, 0)
	for _, s := range []string{fill(rules+"{", "-", "1};"), fill(rules+"{", "let x=1in ", "1};"), fill(rules+"{[", "1,", "1]};"), fill(rules+"{\"", "a", "\"};"), fill(rules+"{", "a", "};")} {
		p.check(s)
		if v, err := p.tool.Run(s); err == nil {
			if _, said := smith.Said(v); said {
				t.Errorf("%.60q: is said", s)
			}
		}
	}
	p.enough(15, 23, 23, 5)
}
