package tongue_test

import (
	"slices"
	"strings"
	"testing"

	"grammarsmith/api"
	"grammarsmith/forest"
	"grammarsmith/tongue"
)

// language is P110 with P101 as a grammar: a great letter and what follows it is a name, all else terminals, as they are spelled.
const language = "Spec : grammar n Parts | Parts : ; Parts Part | Part : tokens Pieces ; tokens colon n Pieces ; levels Ranks ; rules Sorts |" +
	"Pieces : ; Pieces Piece | Piece : n = `p` Turns semicolon | Ranks : ; Ranks Rank | Rank : Side n Names semicolon | Side : left ; right ; none | Names : ; Names n |" +
	"Sorts : ; Sorts Sort | Sort : n colon Type = Cases semicolon | Type : int ; text ; node ; list Type | Cases : Case ; Cases stroke Case | Case : Names { Any } ; Names % n { Any } |" +
	"Any : let n = Any in Any ; if Any then Any else Any ; Compared | Compared : Sum == Sum ; Sum < Sum ; Sum | Sum : Sum + Product ; Sum - Product ; Sum ++ Product ; Product |" +
	"Product : Product * Negated ; Product / Negated ; Product % Negated ; Negated | Negated : - Negated ; Unit |" +
	"Unit : 7 ; \"t\" ; $3 ; n ; ( Any ) ; [ ] ; [ Row ] ; len ( Any ) ; text ( Any ) ; tag ( Any ) ; kids ( Any ) ; int ( Any , Any ) ; node ( Any , Any ) ; at ( Any , Any , Any ) | Row : Any ; Row , Any |" +
	"Turns : ; skip ; pop ; push n ; skip pop ; skip push n ; pop skip ; pop push n ; push n skip ; push n pop ; skip pop push n ; skip push n pop ; pop skip push n ; pop push n skip ; push n skip pop ; push n pop skip"

// talk is the grammar, with its terminals as they are spelled; the last of them are in none of its rules.
type talk struct {
	api.Grammar
	spelled []string
}

func newTalk() *talk {
	g, names := &talk{}, []string{}
	for _, rule := range strings.Split(language, "|") {
		names = append(names, strings.Fields(rule)[0])
	}
	g.Names = len(names)
	for _, rule := range strings.Split(language, "|") {
		left, rights, _ := strings.Cut(rule, ":")
		for _, right := range strings.Split(rights, ";") {
			p := api.Prod{Left: slices.Index(names, strings.TrimSpace(left))}
			for _, s := range strings.Fields(right) {
				if i := slices.Index(names, s); i >= 0 {
					p.Right = append(p.Right, -1-i)
				} else {
					p.Right = append(p.Right, g.terminal(s))
				}
			}
			g.Prods = append(g.Prods, p)
		}
	}
	for _, s := range []string{"?", "é", "\xff", "A", "&", "$0", "07"} {
		g.terminal(s)
	}
	g.Terms = len(g.spelled)
	return g
}

// terminal is the number of one. The signs that hold the grammar itself together have words there.
func (g *talk) terminal(s string) int {
	switch s {
	case "colon":
		s = ":"
	case "semicolon":
		s = ";"
	case "stroke":
		s = "|"
	}
	if i := slices.Index(g.spelled, s); i >= 0 {
		return i
	}
	g.spelled = append(g.spelled, s)
	return len(g.spelled) - 1
}

func (g *talk) terminals(s string) []int {
	var out []int
	for _, w := range strings.Fields(s) {
		out = append(out, g.terminal(w))
	}
	return out
}

// texted writes terminals as a text, and gives where each begins.
func (g *talk) texted(d *dice, in []int) (string, []int) {
	var tokens []string
	for _, x := range in {
		tokens = append(tokens, g.spelled[x])
	}
	return joined(d, tokens)
}

// checkBeginning holds Read of terminals, all of which may stand there, against the grammar.
func (g *talk) checkBeginning(t *testing.T, d *dice, in []int) bool {
	t.Helper()
	text, _ := g.texted(d, in)
	if !forest.Has(g.Grammar, in) {
		checkWrong(t, text, api.ErrSyntax, len(text))
		return false
	}
	x, err := tongue.Read(text)
	if err != nil {
		t.Fatalf("Read(%q): %v at %d", text, err, placeOf(err))
	}
	checkBack(t, text, x)
	return true
}

// checkStray holds Read of terminals of which the last cannot stand there against that place, whatever follows.
func (g *talk) checkStray(t *testing.T, d *dice, in []int) {
	t.Helper()
	text, at := g.texted(d, in)
	checkWrong(t, text, api.ErrSyntax, at[len(in)-1])
	more := slices.Clone(in)
	for range 3 {
		more = append(more, d.next(len(g.spelled)))
	}
	text, at = g.texted(d, more)
	checkWrong(t, text, api.ErrSyntax, at[len(in)-1])
}

// P110, P111: from some beginnings on all that may follow, and all that may not, by the grammar.
func TestReadByTheGrammar(t *testing.T) {
	g, d := newTalk(), &dice{seed: 3}
	beginnings, sentences := 0, 0
	for _, s := range []string{"", "grammar n", "grammar n tokens n = `p`", "grammar n tokens n = `p` push n ; n", "grammar n levels left n", "grammar n rules n : list", "grammar n rules n : int = n", "grammar n rules n : int = % n {", "grammar n rules n : text = { 7", "grammar n rules n : text = { let n = 7", "grammar n rules n : text = { 7 } |", "grammar n rules n : int = { int ( 7", "grammar n rules n : int = { [ 7 , 7 ] } ;"} {
		level := [][]int{g.terminals(s)}
		for range 3 {
			var next [][]int
			for _, in := range level {
				begins := forest.Begins(g.Grammar, in)
				for x := range g.spelled {
					longer := append(slices.Clone(in), x)
					if !slices.Contains(begins, x) {
						g.checkStray(t, d, longer)
						continue
					}
					next = append(next, longer)
					beginnings++
					if g.checkBeginning(t, d, longer) {
						sentences++
					}
				}
			}
			level = next
		}
	}
	if beginnings < 4000 || sentences < 100 {
		t.Errorf("only %d beginnings and %d sentences", beginnings, sentences)
	}
}

// P110, P111: long texts by the grammar.
func TestReadOfLongTextsByTheGrammar(t *testing.T) {
	g, d, sentences := newTalk(), &dice{seed: 4}, 0
	for range 150 {
		in := g.terminals("grammar n")
		for len(in) < api.MaxWords-5 {
			begins := forest.Begins(g.Grammar, in)
			for range 3 {
				if stray := d.next(len(g.spelled)); !slices.Contains(begins, stray) {
					g.checkStray(t, d, append(slices.Clone(in), stray))
				}
			}
			in = append(in, g.onwards(d, begins))
			if g.checkBeginning(t, d, in) {
				sentences++
			}
		}
	}
	if sentences < 500 {
		t.Errorf("only %d sentences", sentences)
	}
}

// onwards chooses a terminal: often one that ends something, so that not all is left open.
func (g *talk) onwards(d *dice, begins []int) int {
	var ends, all []int
	for _, x := range begins {
		if x == g.Terms {
			continue
		}
		all = append(all, x)
		if slices.Contains([]string{"in", "then", "else", ")", "]", "}", ";", ",", "7", "n"}, g.spelled[x]) {
			ends = append(ends, x)
		}
	}
	if len(ends) > 0 && d.next(3) > 0 {
		return pick(d, ends...)
	}
	return pick(d, all...)
}
