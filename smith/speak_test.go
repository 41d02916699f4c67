package smith_test

import (
	"strconv"
	"strings"

	"grammarsmith/action"
	"grammarsmith/api"
	"grammarsmith/pattern"
)

var (
	keywords  = []string{"grammar", "tokens", "levels", "rules", "skip", "pop", "push", "left", "right", "none", "list", "node", "int", "text", "let", "in", "if", "then", "else", "len", "at", "tag", "kids"}
	signs     = []string{";", ":", "|", "{", "}", "(", ")", "[", "]", ",", "=", "==", "++", "<", "+", "-", "*", "/", "%"}
	operators = []string{"==", "<", "+", "-", "++", "*", "/", "%"}
	takes     = map[string]int{"len": 1, "at": 3, "text": 1, "int": 2, "node": 2, "tag": 1, "kids": 1}
	functions = []string{"len", "at", "text", "int", "node", "tag", "kids"}
	long      = "a" + strings.Repeat("z9_", 13)
)

func (d *dice) name() string {
	return pick(d, "a", "b", "c", "n", "a_1", "x9", "tokens_", "lefts", "i", "grammars", "list2", "no", "ne", "poppush", "row", "leaf", "spec", "call", long)
}

func (d *dice) leaf() *api.Expr {
	switch d.next(5) {
	case 0:
		return num(pick[int64](d, 0, 1, 2, 10, 1<<62, 1<<63-1))
	case 1:
		return str(pick(d, "", "a", "é", "\"", "\\", "\n", "\\n", "a # b", "`", "; } {", "\x00\t\r", "\ufffd", "𝄞", strings.Repeat("x", 200)))
	case 2:
		return arg(int64(1 + d.next(api.MaxRight)))
	case 3:
		return row()
	}
	return name(d.name())
}

// expr is an expression of at most so many levels.
func (d *dice) expr(levels int) *api.Expr {
	if levels == 0 || d.next(4) == 0 {
		return d.leaf()
	}
	kids := func(n int) []*api.Expr {
		var out []*api.Expr
		for range n {
			out = append(out, d.expr(levels-1))
		}
		return out
	}
	switch d.next(6) {
	case 0:
		return let(d.name(), d.expr(levels-1), d.expr(levels-1))
	case 1:
		return cond(kids(3)...)
	case 2:
		return op(pick(d, operators...), kids(2)...)
	case 3:
		return neg(d.expr(levels - 1))
	case 4:
		return row(kids(d.next(4))...)
	}
	f := pick(d, functions...)
	return call(f, kids(takes[f])...)
}

func (d *dice) pattern() *api.Re {
	for {
		if p := d.parts(d.next(4)); pattern.Ok(p) {
			return p
		}
	}
}

func (d *dice) parts(levels int) *api.Re {
	if levels == 0 {
		return d.set()
	}
	kids := []*api.Re{d.parts(levels - 1), d.parts(levels - 1)}
	switch kind := 1 + d.next(6); kind {
	case api.RCat, api.ROr, api.RAnd:
		return &api.Re{Kind: kind, Kids: kids}
	case api.RNot:
		return &api.Re{Kind: kind, Kids: kids[:1:1]}
	case api.RRep:
		least := d.next(3)
		return &api.Re{Kind: kind, Min: least, Max: pick(d, -1, max(least, 1), least+2), Kids: kids[:1:1]}
	}
	return d.set()
}

// set is one with points that have a meaning in patterns, or around them.
func (d *dice) set() *api.Re {
	switch d.next(6) {
	case 0:
		return cat()
	case 1:
		return setOf()
	case 2:
		return setOf(api.Range{Lo: 0, Hi: 9}, api.Range{Lo: 11, Hi: api.MaxPoint})
	case 3:
		return setOf(api.Range{Lo: 'a', Hi: 'z'})
	}
	return one(pick[int](d, '`', '`', '#', '"', '\\', '\n', '\r', '\t', ' ', ';', '[', ']', '^', '-', '~', 'a', 0, 0xd800, 0xe9, 0xfffd, api.MaxPoint))
}

func (d *dice) piece() api.Piece {
	return api.Piece{Name: d.name(), Mode: pick(d, "", "", d.name()), Pattern: d.pattern(), Skip: d.happens(), Pop: d.happens(), Push: pick(d, "-", d.name())}
}

func (d *dice) rank() api.Rank {
	return api.Rank{Side: pick(d, api.ToLeft, api.ToRight, api.ToNone), Names: append(some(d, 4, d.name), d.name())}
}

func (d *dice) sort() api.Sort {
	return api.Sort{Name: d.name(), Type: lists(d.next(3), simple(pick(d, api.Int, api.Text, api.Node))), Cases: append(some(d, 4, d.oneCase), d.oneCase())}
}

func (d *dice) oneCase() api.Case {
	e := d.expr(d.next(5))
	for !action.Ok(e) {
		e = d.expr(2)
	}
	return api.Case{Symbols: some(d, 4, d.name), Level: pick(d, "", d.name()), Action: e}
}

// spec is something that can be said, of any kind.
func (d *dice) spec() api.Spec {
	return api.Spec{Name: d.name(), Pieces: some(d, 6, d.piece), Ranks: some(d, 4, d.rank), Sorts: some(d, 4, d.sort)}
}

// speaker says a Spec token by token, in one of the many ways in which that can be.
type speaker struct {
	*dice
	tokens []string
}

func (w *speaker) say(tokens ...string) { w.tokens = append(w.tokens, tokens...) }

// spec says the parts in any order, but those of one kind as they stand, and parts without entries between them.
func (w *speaker) spec(x api.Spec) {
	w.say("grammar", x.Name)
	pieces, ranks, sorts := x.Pieces, x.Ranks, x.Sorts
	for len(pieces)+len(ranks)+len(sorts) > 0 || w.next(3) == 0 {
		switch w.next(3) {
		case 0:
			pieces = w.pieces(pieces)
		case 1:
			w.say("levels")
			for ; len(ranks) > 0 && w.happens(); ranks = ranks[1:] {
				w.say([]string{"", "left", "right", "none"}[ranks[0].Side])
				w.say(ranks[0].Names...)
				w.say(";")
			}
		case 2:
			w.say("rules")
			for ; len(sorts) > 0 && w.happens(); sorts = sorts[1:] {
				w.sort(sorts[0])
			}
		}
	}
}

// pieces says some of the pieces, all of one mode, and gives the rest.
func (w *speaker) pieces(l []api.Piece) []api.Piece {
	mode := pick(w.dice, "", w.name())
	if len(l) > 0 && w.next(4) > 0 {
		mode = l[0].Mode
	}
	w.say("tokens")
	if mode != "" {
		w.say(":", mode)
	}
	for ; len(l) > 0 && l[0].Mode == mode && w.next(4) > 0; l = l[1:] {
		w.piece(l[0])
	}
	return l
}

func (w *speaker) piece(p api.Piece) {
	text, _ := pattern.Write(p.Pattern)
	w.say(p.Name, "=", "`"+text+"`")
	var turns [][]string
	if p.Skip {
		turns = append(turns, []string{"skip"})
	}
	if p.Pop {
		turns = append(turns, []string{"pop"})
	}
	if p.Push != "-" {
		turns = append(turns, []string{"push", p.Push})
	}
	for len(turns) > 0 {
		i := w.next(len(turns))
		w.say(turns[i]...)
		turns = append(turns[:i], turns[i+1:]...)
	}
	w.say(";")
}

func (w *speaker) sort(s api.Sort) {
	w.say(s.Name, ":")
	of := s.Type
	for ; of.Kind == api.List; of = *of.Of {
		w.say("list")
	}
	w.say([]string{"", "int", "text", "", "node"}[of.Kind])
	for i, c := range s.Cases {
		w.say([]string{"=", "|"}[min(i, 1)])
		w.say(c.Symbols...)
		if c.Level != "" {
			w.say("%", c.Level)
		}
		w.say("{")
		w.expr(c.Action)
		w.say("}")
	}
	w.say(";")
}

// kids says expressions with a token between each two, in brackets, or, where they need none, without.
func (w *speaker) kids(between string, l ...*api.Expr) {
	for i, e := range l {
		if i > 0 {
			w.say(between)
		}
		if len(e.Kids) == 0 && w.happens() {
			w.expr(e)
			continue
		}
		w.say("(")
		w.expr(e)
		w.say(")")
	}
}

// expr says an expression without thought of what binds what.
func (w *speaker) expr(e *api.Expr) {
	switch e.Kind {
	case api.ENum:
		w.say(strconv.FormatInt(e.Num, 10))
	case api.EText:
		w.say(`"` + strings.NewReplacer(`"`, `\"`, `\`, `\\`, "\n", `\n`).Replace(e.Text) + `"`)
	case api.EArg:
		w.say("$" + strconv.FormatInt(e.Num, 10))
	case api.EName:
		w.say(e.Text)
	case api.ELet:
		w.say("let", e.Text, "=")
		w.kids("in", e.Kids...)
	case api.EIf:
		w.say("if")
		w.kids("", e.Kids[0])
		w.say("then")
		w.kids("else", e.Kids[1:]...)
	case api.EOp:
		w.kids(e.Text, e.Kids...)
	case api.ENeg:
		w.say("-")
		w.kids("", e.Kids...)
	case api.EList:
		w.say("[")
		w.kids(",", e.Kids...)
		w.say("]")
	case api.ECall:
		w.say(e.Text, "(")
		w.kids(",", e.Kids...)
		w.say(")")
	}
}

func inWord(b byte) bool  { return b >= 'a' && b <= 'z' || isDigit(b) || b == '_' }
func isDigit(b byte) bool { return b >= '0' && b <= '9' }

// wouldBeOne says whether two tokens without anything between them would be others.
func wouldBeOne(a, b string) bool {
	last, first := a[len(a)-1], b[0]
	number := isDigit(a[0]) || a[0] == '$'
	return a[0] >= 'a' && a[0] <= 'z' && inWord(first) || number && isDigit(last) && isDigit(first) || (a == "=" || a == "+") && a[0] == first || a == "$" && isDigit(first)
}

var separators = []string{" ", "\t", "\n", "\r", "\r\n", " \t \n", "#\n", "# a comment\n", "#`\" é # ; }\r\n", "\n\t# é\n # \x00\n  "}

// joined writes tokens as a text, with anything between them that may stand there.
func joined(d *dice, tokens []string) string {
	var b strings.Builder
	for i, s := range tokens {
		if i > 0 && (wouldBeOne(tokens[i-1], s) || d.happens()) || i == 0 && d.next(4) == 0 {
			b.WriteString(pick(d, separators...))
		}
		b.WriteString(s)
	}
	return b.String()
}

// tokensOf says something, token by token.
func (d *dice) tokensOf(x api.Spec) []string {
	w := &speaker{dice: d}
	w.spec(x)
	return w.tokens
}

// stray is a token of any kind, or what is none.
func (d *dice) stray() string {
	switch d.next(4) {
	case 0:
		return pick(d, keywords...)
	case 1:
		return pick(d, signs...)
	case 2:
		return pick(d, "1", "0", "$1", "$20", "\"a\"", "\"\\\"\"", "`a`", "``", "x", long, "9223372036854775807")
	}
	return pick(d, "?", "é", "A", "_", "&", "$", "$0", "$21", "07", "9223372036854775808", "\"", "`", "`(`", "`a{51}`", strings.Repeat("a", 41), "\"\\q\"", "'", "\\", "\x00", "\u00a0", "\"\ufffd\"")
}
