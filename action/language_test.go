package action_test

import (
	"slices"
	"strings"
	"testing"

	"grammarsmith/action"
	"grammarsmith/api"
	"grammarsmith/forest"
)

// spelled are the terminals of the grammar below; the last one is no token.
var spelled = []string{"7", `"t"`, "$3", "n", "let", "in", "if", "then", "else", "=", "==", "<", "+", "-", "++", "*", "/", "%", "(", ")", "[", "]", ",", "len", "int", "at", "?"}

// rules is P101 as a grammar: a great letter is a name, a small text what becomes of the kids.
var rules = []struct{ left, right, made string }{
	{"E", "let n = E in E", "let"}, {"E", "if E then E else E", "if"}, {"E", "C", ""},
	{"C", "S == S", "op"}, {"C", "S < S", "op"}, {"C", "S", ""},
	{"S", "S + P", "op"}, {"S", "S - P", "op"}, {"S", "S ++ P", "op"}, {"S", "P", ""},
	{"P", "P * U", "op"}, {"P", "P / U", "op"}, {"P", "P % U", "op"}, {"P", "U", ""},
	{"U", "- U", "neg"}, {"U", "A", ""},
	{"A", "7", "leaf"}, {"A", `"t"`, "leaf"}, {"A", "$3", "leaf"}, {"A", "n", "leaf"}, {"A", "( E )", ""}, {"A", "[ ]", "list"}, {"A", "[ L ]", "list"},
	{"A", "len ( E )", "call"}, {"A", "int ( E , E )", "call"}, {"A", "at ( E , E , E )", "call"},
	{"L", "E", "row"}, {"L", "L , E", "row"},
}

// grammarOf gives that grammar.
func grammarOf() api.Grammar {
	const names = "ECSPUAL"
	g := api.Grammar{Terms: len(spelled), Names: len(names)}
	for _, r := range rules {
		p := api.Prod{Left: strings.Index(names, r.left)}
		for _, s := range strings.Fields(r.right) {
			if at := strings.Index(names, s); at >= 0 {
				p.Right = append(p.Right, -1-at)
			} else {
				p.Right = append(p.Right, slices.Index(spelled, s))
			}
		}
		g.Prods = append(g.Prods, p)
	}
	return g
}

// exprs gives what a tree stands for: one expression, but for those of a row.
func exprs(r *api.Tree, in []int) []*api.Expr {
	rule := rules[r.Prod]
	var kids []*api.Expr
	for _, k := range r.Kids {
		if k.Prod >= 0 {
			kids = append(kids, exprs(k, in)...)
		}
	}
	sign := func(i int) string { return spelled[in[r.Kids[i].Token]] }
	switch rule.made {
	case "let":
		return []*api.Expr{let("n", kids[0], kids[1])}
	case "if":
		return []*api.Expr{cond(kids...)}
	case "op":
		return []*api.Expr{op(sign(1), kids...)}
	case "neg":
		return []*api.Expr{neg(kids[0])}
	case "list":
		return []*api.Expr{row(kids...)}
	case "call":
		return []*api.Expr{call(sign(0), kids...)}
	case "leaf":
		return []*api.Expr{[]*api.Expr{num(7), str("t"), arg(3), name("n")}[in[r.Kids[0].Token]]}
	}
	return kids
}

// blanks gives texts that may stand between two terminals.
func blanks(a, b string) []string {
	out := []string{" ", "\n", "  \n "}
	last, first := a[len(a)-1], b[0]
	small := func(c byte) bool { return c >= 'a' && c <= 'z' }
	digit := func(c byte) bool { return c >= '0' && c <= '9' }
	one := (small(last) || digit(last)) && digit(first) || small(last) && small(first) || a == "=" && first == '=' || a == "+" && first == '+'
	if !one {
		out = append(out, "", "")
	}
	return out
}

// texted writes terminals as a text, and gives where each begins.
func texted(d *dice, in []int) (string, []int) {
	var text string
	var at []int
	for i, x := range in {
		if i > 0 {
			text += pick(d, blanks(spelled[in[i-1]], spelled[x])...)
		}
		at = append(at, len(text))
		text += spelled[x]
	}
	return text, at
}

// checkSentence holds Read of terminals, all of which may stand there, against the grammar's trees.
func checkSentence(t *testing.T, g api.Grammar, d *dice, in []int) {
	t.Helper()
	text, _ := texted(d, in)
	trees := forest.Trees(g, in, 2)
	if len(trees) == 0 {
		checkWrong(t, text, api.ErrSyntax, len(text))
		return
	}
	want := exprs(trees[0], in)
	if len(trees) > 1 || len(want) != 1 {
		t.Fatalf("%q: %d trees", text, len(trees))
	}
	checkRead(t, text, want[0])
}

// checkStray holds Read of terminals of which the last cannot stand there against that place, whatever follows.
func checkStray(t *testing.T, d *dice, in []int) {
	t.Helper()
	text, at := texted(d, in)
	checkWrong(t, text, api.ErrSyntax, at[len(in)-1])
	more := slices.Clone(in)
	for range 3 {
		more = append(more, d.next(len(spelled)))
	}
	text, at = texted(d, more)
	checkWrong(t, text, api.ErrSyntax, at[len(in)-1])
}

// P101, P102: all short texts, and beginnings of long ones, by the grammar.
func TestReadByTheGrammar(t *testing.T) {
	g, d := grammarOf(), &dice{seed: 3}
	level := [][]int{nil}
	for range 5 {
		var next [][]int
		for _, in := range level {
			begins := forest.Begins(g, in)
			for x := range spelled {
				longer := append(slices.Clone(in), x)
				if slices.Contains(begins, x) {
					next = append(next, longer)
					checkSentence(t, g, d, longer)
				} else {
					checkStray(t, d, longer)
				}
			}
		}
		level = next
	}
	if len(level) < 20000 {
		t.Errorf("only %d beginnings", len(level))
	}
}

func TestReadOfLongTextsByTheGrammar(t *testing.T) {
	g, d, met := grammarOf(), &dice{seed: 4}, 0
	for range 300 {
		var in []int
		for len(in) < 40 {
			begins := forest.Begins(g, in)
			if stray := d.next(len(spelled)); !slices.Contains(begins, stray) {
				checkStray(t, d, append(slices.Clone(in), stray))
			}
			in = append(in, onwards(d, begins))
			checkSentence(t, g, d, in)
			if forest.Has(g, in) {
				met++
			}
		}
	}
	if met < 1000 {
		t.Errorf("only %d sentences", met)
	}
}

// onwards chooses a terminal: often one that ends something, so that not all is left open.
func onwards(d *dice, begins []int) int {
	var ends, all []int
	for _, x := range begins {
		if x < len(spelled) {
			all = append(all, x)
		}
		if x < len(spelled) && slices.Contains([]string{"in", "then", "else", ")", "]", ",", "7", "n"}, spelled[x]) {
			ends = append(ends, x)
		}
	}
	if len(ends) > 0 && d.next(3) > 0 {
		return pick(d, ends...)
	}
	return pick(d, all...)
}

// Read of what a text says, with more brackets and blanks, is the same.
func TestReadOfMoreBrackets(t *testing.T) {
	d := &dice{seed: 6}
	for _, e := range validOnes(1000) {
		text := bracketed(d, e)
		got, err := action.Read(text)
		if err != nil || !same(got, e) {
			t.Fatalf("Read(%q) = %+v, %v", text, got, err)
		}
	}
}

// bracketed writes an expression with brackets around each one.
func bracketed(d *dice, e *api.Expr) string {
	var kids []string
	for _, k := range e.Kids {
		around := 1 + d.next(2)
		kids = append(kids, strings.Repeat("(", around)+pick(d, "", " ", "\n")+bracketed(d, k)+strings.Repeat(")", around))
	}
	switch e.Kind {
	case api.ELet:
		return "let " + e.Text + " =" + kids[0] + "in" + kids[1]
	case api.EIf:
		return "if" + kids[0] + "then" + kids[1] + "else" + kids[2]
	case api.EOp:
		return kids[0] + e.Text + kids[1]
	case api.ENeg:
		return "-" + kids[0]
	case api.EList:
		return "[" + strings.Join(kids, ",") + "]"
	case api.ECall:
		return e.Text + "(" + strings.Join(kids, "\n,") + ")"
	}
	text, err := action.Write(e)
	if err != nil {
		panic(err)
	}
	return text
}
