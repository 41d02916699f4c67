package tongue_test

import (
	"strconv"
	"strings"
	"testing"

	"grammarsmith/api"
	"grammarsmith/pattern"
)

// teller says a Spec token by token, in one of the many ways in which that can be.
type teller struct {
	*dice
	tokens []string
}

func (w *teller) say(tokens ...string) { w.tokens = append(w.tokens, tokens...) }

// spec says the parts in any order, but those of one kind as they stand, and parts without entries between them.
func (w *teller) spec(x api.Spec) {
	w.say("grammar", x.Name)
	pieces, ranks, sorts := x.Pieces, x.Ranks, x.Sorts
	for len(pieces)+len(ranks)+len(sorts) > 0 || w.next(3) == 0 {
		switch w.next(3) {
		case 0:
			pieces = w.pieces(pieces)
		case 1:
			w.say("levels")
			for ; len(ranks) > 0 && w.happens(); ranks = ranks[1:] {
				w.rank(ranks[0])
			}
		case 2:
			w.say("rules")
			for ; len(sorts) > 0 && w.happens(); sorts = sorts[1:] {
				w.sort(sorts[0])
			}
		}
	}
}

// pieces says some of the pieces, all of one mode, and gives the rest.
func (w *teller) pieces(l []api.Piece) []api.Piece {
	mode := pick(w.dice, "", w.name())
	if len(l) > 0 && w.next(4) > 0 {
		mode = l[0].Mode
	}
	w.say("tokens")
	if mode != "" {
		w.say(":", mode)
	}
	for ; len(l) > 0 && l[0].Mode == mode && w.next(4) > 0; l = l[1:] {
		w.piece(l[0])
	}
	return l
}

func (w *teller) piece(p api.Piece) {
	text, err := pattern.Write(p.Pattern)
	if err != nil {
		panic(err)
	}
	w.say(p.Name, "=", "`"+text+"`")
	skip, pop, push := p.Skip, p.Pop, p.Push != "-"
	for skip || pop || push {
		switch w.next(3) {
		case 0:
			if skip {
				w.say("skip")
			}
			skip = false
		case 1:
			if pop {
				w.say("pop")
			}
			pop = false
		case 2:
			if push {
				w.say("push", p.Push)
			}
			push = false
		}
	}
	w.say(";")
}

func (w *teller) rank(r api.Rank) {
	w.say([]string{"", "left", "right", "none"}[r.Side])
	w.say(r.Names...)
	w.say(";")
}

func (w *teller) sort(s api.Sort) {
	w.say(s.Name, ":")
	of := s.Type
	for ; of.Kind == api.List; of = *of.Of {
		w.say("list")
	}
	w.say([]string{"", "int", "text", "", "node"}[of.Kind])
	for i, c := range s.Cases {
		w.say([]string{"=", "|"}[min(i, 1)])
		w.say(c.Symbols...)
		if c.Level != "" {
			w.say("%", c.Level)
		}
		w.say("{")
		w.expr(c.Action)
		w.say("}")
	}
	w.say(";")
}

// kids says expressions in brackets, with a token between each two.
func (w *teller) kids(between string, l ...*api.Expr) {
	for i, e := range l {
		if i > 0 {
			w.say(between)
		}
		w.say("(")
		w.expr(e)
		w.say(")")
	}
}

// expr says an expression without thought of what binds what: each kid stands in brackets.
func (w *teller) expr(e *api.Expr) {
	switch e.Kind {
	case api.ENum:
		w.say(strconv.FormatInt(e.Num, 10))
	case api.EText:
		w.say(`"` + strings.NewReplacer(`"`, `\"`, `\`, `\\`, "\n", `\n`).Replace(e.Text) + `"`)
	case api.EArg:
		w.say("$" + strconv.FormatInt(e.Num, 10))
	case api.EName:
		w.say(e.Text)
	case api.ELet:
		w.say("let", e.Text, "=")
		w.kids("in", e.Kids...)
	case api.EIf:
		w.say("if")
		w.kids("", e.Kids[0])
		w.say("then")
		w.kids("else", e.Kids[1:]...)
	case api.EOp:
		w.kids(e.Text, e.Kids...)
	case api.ENeg:
		w.say("-")
		w.kids("", e.Kids...)
	case api.EList:
		w.say("[")
		w.kids(",", e.Kids...)
		w.say("]")
	case api.ECall:
		w.say(e.Text, "(")
		w.kids(",", e.Kids...)
		w.say(")")
	}
}

func inWord(b byte) bool {
	return b >= 'a' && b <= 'z' || b >= '0' && b <= '9' || b == '_'
}

func isDigit(b byte) bool { return b >= '0' && b <= '9' }

// wouldBeOne says whether two tokens without anything between them would be others.
func wouldBeOne(a, b string) bool {
	last, first := a[len(a)-1], b[0]
	number := isDigit(a[0]) || a[0] == '$'
	return a[0] >= 'a' && a[0] <= 'z' && inWord(first) || number && isDigit(last) && isDigit(first) || (a == "=" || a == "+") && a[0] == first
}

var separators = []string{" ", "\t", "\n", "\r", "\r\n", " \t \n", "#\n", "# a comment\n", "#`\"\xff\xc3 # ; }\r\n", "\n\t# é\n # \x00\n  "}

// joined writes tokens as a text, with anything between them that may stand there, and gives where each begins.
func joined(d *dice, tokens []string) (string, []int) {
	var b strings.Builder
	var at []int
	for i, s := range tokens {
		if i > 0 && (wouldBeOne(tokens[i-1], s) || d.happens()) || i == 0 && d.next(4) == 0 {
			b.WriteString(pick(d, separators...))
		}
		at = append(at, b.Len())
		b.WriteString(s)
	}
	return b.String(), at
}

// P110, P111: what can be said is read, in whichever way it is said.
func TestReadOfManyTexts(t *testing.T) {
	d := &dice{seed: 1}
	for range 4000 {
		x := d.spec()
		w := &teller{dice: d}
		w.spec(x)
		text, _ := joined(d, w.tokens)
		if len(text) > api.MaxText {
			continue
		}
		checkRead(t, text, x)
		checkRead(t, text+pick(d, separators...), x)
		checkRead(t, text+"# the end", x)
	}
}

// P111: a text that ends too early is wrong at its length, or, if it could end there, says less.
func TestReadOfTextsCutOff(t *testing.T) {
	d := &dice{seed: 2}
	for range 150 {
		w := &teller{dice: d}
		w.spec(d.spec())
		for i := range w.tokens {
			text, _ := joined(d, w.tokens[:i])
			text += pick(d, separators...)
			if len(text) > 3000 {
				break
			}
			if canEnd(w.tokens[:i]) {
				mustRead(t, text)
			} else {
				checkWrong(t, text, api.ErrSyntax, len(text))
			}
		}
	}
}

// canEnd says of the beginning of what can be said whether it can be all of it.
func canEnd(tokens []string) bool {
	if len(tokens) < 2 {
		return false
	}
	last, mode := tokens[len(tokens)-1], tokens[len(tokens)-2] == ":" && tokens[len(tokens)-3] == "tokens"
	return len(tokens) == 2 || last == ";" || last == "tokens" || last == "levels" || last == "rules" || mode
}
