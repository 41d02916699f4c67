package smith_test

import (
	"slices"
	"testing"

	"grammarsmith/action"
	"grammarsmith/api"
	"grammarsmith/grammar"
	"grammarsmith/parse"
	"grammarsmith/pattern"
	"grammarsmith/points"
	"grammarsmith/scan"
	"grammarsmith/smith"
	"grammarsmith/table"
	"grammarsmith/tongue"
)

// plan is what a tool should be made of, by P120's words, and what is wrong with it.
type plan struct {
	rules   []api.Rule
	grammar api.Grammar
	table   api.Table
	actions []*api.Expr
	err     error
	at      int
}

func (p *plan) wrong(err error, at int) bool {
	p.err, p.at = err, at
	return true
}

func planOf(x api.Spec) *plan {
	p := &plan{}
	_ = p.badNames(x) || p.badPieces(x) || p.badSymbols(x) || p.badRanks(x) || p.badGrammar(x) || p.badActions(x) || p.badTable()
	return p
}

func (p *plan) badNames(x api.Spec) bool {
	for i, a := range x.Pieces {
		if slices.ContainsFunc(x.Pieces[:i], func(b api.Piece) bool { return a.Name == b.Name }) {
			return p.wrong(api.ErrName, i)
		}
	}
	for i, a := range x.Sorts {
		if slices.ContainsFunc(x.Pieces, func(b api.Piece) bool { return a.Name == b.Name }) || slices.ContainsFunc(x.Sorts[:i], func(b api.Sort) bool { return a.Name == b.Name }) {
			return p.wrong(api.ErrName, i)
		}
	}
	return len(x.Sorts) == 0 && p.wrong(api.ErrName, 0)
}

func (p *plan) badPieces(x api.Spec) bool {
	modes := []string{""}
	for i, a := range x.Pieces {
		for _, m := range []string{a.Mode, a.Push} {
			if m != "-" && !slices.Contains(modes, m) {
				modes = append(modes, m)
			}
		}
		if len(modes) > api.MaxModes {
			return p.wrong(api.ErrBound, i)
		}
		p.rules = append(p.rules, api.Rule{Name: a.Name, Re: a.Pattern, Mode: slices.Index(modes, a.Mode), Skip: a.Skip, Pop: a.Pop, Push: slices.Index(modes, a.Push)})
	}
	_, err := scan.New(p.rules)
	return err != nil && p.wrong(err.(*api.Fault).Err, err.(*api.Fault).At)
}

// terminals are the names of the pieces without Skip.
func terminals(x api.Spec) []string {
	var out []string
	for _, a := range x.Pieces {
		if !a.Skip {
			out = append(out, a.Name)
		}
	}
	return out
}

func symbol(x api.Spec, name string) (int, bool) {
	if i := slices.Index(terminals(x), name); i >= 0 {
		return i, true
	}
	i := slices.IndexFunc(x.Sorts, func(s api.Sort) bool { return s.Name == name })
	return -1 - i, i >= 0
}

func (p *plan) badSymbols(x api.Spec) bool {
	for i, s := range x.Sorts {
		for _, c := range s.Cases {
			number := len(p.grammar.Prods)
			q := api.Prod{Left: i}
			for _, name := range c.Symbols {
				n, is := symbol(x, name)
				if !is {
					return p.wrong(api.ErrName, number)
				}
				q.Right = append(q.Right, n)
			}
			if c.Level != "" && !slices.Contains(terminals(x), c.Level) {
				return p.wrong(api.ErrName, number)
			}
			p.grammar.Prods = append(p.grammar.Prods, q)
		}
	}
	return false
}

func (p *plan) badRanks(x api.Spec) bool {
	var ahead []string
	for i, r := range x.Ranks {
		for _, name := range r.Names {
			if !slices.Contains(terminals(x), name) || slices.Contains(ahead, name) {
				return p.wrong(api.ErrName, i)
			}
			ahead = append(ahead, name)
		}
	}
	return false
}

func levelOf(x api.Spec, name string) int {
	return 1 + slices.IndexFunc(x.Ranks, func(r api.Rank) bool { return slices.Contains(r.Names, name) })
}

func (p *plan) badGrammar(x api.Spec) bool {
	g := &p.grammar
	g.Terms, g.Names = len(terminals(x)), len(x.Sorts)
	for _, name := range terminals(x) {
		g.Levels = append(g.Levels, levelOf(x, name))
	}
	for _, r := range x.Ranks {
		g.Sides = append(g.Sides, r.Side)
	}
	number := 0
	for _, s := range x.Sorts {
		for _, c := range s.Cases {
			last := ""
			for _, name := range c.Symbols {
				if slices.Contains(terminals(x), name) {
					last = name
				}
			}
			if c.Level != "" {
				last = c.Level
			}
			if last != "" {
				g.Prods[number].Level = levelOf(x, last)
			}
			number++
		}
	}
	return !grammar.Ok(*g) && p.wrong(api.ErrBound, 0)
}

// fits is P100's word.
func fits(a, b api.Type) bool {
	if a.Kind != b.Kind || a.Kind != api.List {
		return a == b
	}
	return a.Of == nil || b.Of != nil && fits(*a.Of, *b.Of)
}

func (p *plan) badActions(x api.Spec) bool {
	for _, s := range x.Sorts {
		for _, c := range s.Cases {
			number := len(p.actions)
			var args []api.Type
			for _, n := range p.grammar.Prods[number].Right {
				if n >= 0 {
					args = append(args, simple(api.Text))
				} else {
					args = append(args, x.Sorts[-1-n].Type)
				}
			}
			made, err := action.Check(c.Action, args)
			if err != nil {
				return p.wrong(err, number)
			}
			if !fits(made, s.Type) {
				return p.wrong(api.ErrType, number)
			}
			p.actions = append(p.actions, c.Action)
		}
	}
	return false
}

func (p *plan) badTable() bool {
	t, err := table.LALR(p.grammar)
	if err != nil {
		return p.wrong(err.(*api.Fault).Err, err.(*api.Fault).At)
	}
	p.table = t
	return len(t.Conflicts) > 0 && p.wrong(api.ErrConflict, t.Conflicts[0].State)
}

// small is a Spec of few names, of which a tool can often be made.
func (d *dice) small() api.Spec {
	x := api.Spec{Name: "g"}
	names := []string{"a", "b", "c", "d"}
	patterns := []string{"a", "b", "c", "é|d", "[ab]", "a+", "a*", "[abc]b?", ".", "\\+", "[^]"}
	for i := range pick(d, 0, 1, 2, 3, 3, 4, 4) {
		p, _ := pattern.Read(pick(d, patterns[i], patterns[i], patterns[i], pick(d, patterns...)))
		x.Pieces = append(x.Pieces, api.Piece{Name: d.mostly(names[i], names...), Mode: pick(d, "", "", "", "", "m"), Pattern: p, Skip: d.next(6) == 0, Pop: d.next(8) == 0, Push: pick(d, "-", "-", "-", "-", "-", "m", "n")})
	}
	for range d.next(3) {
		x.Ranks = append(x.Ranks, api.Rank{Side: 1 + d.next(3), Names: append(some(d, 2, func() string { return d.symbol(x) }), d.symbol(x))})
	}
	types := []api.Type{simple(api.Int), simple(api.Text), simple(api.Node), lists(1, simple(api.Int)), lists(2, simple(api.Text))}
	sorts := d.next(4)
	for i := range sorts {
		s := api.Sort{Name: d.mostly([]string{"s", "t", "u"}[i], "s", "t", "u", "a"), Type: pick(d, types[0], pick(d, types...))}
		for range 1 + d.next(3) {
			c := api.Case{Symbols: some(d, 4, func() string { return d.mostly(d.symbol(x), []string{"e", "s", "t", "u"}[:sorts+1]...) }), Action: d.made(s.Type)}
			if d.next(5) == 0 {
				c.Level = d.symbol(x)
			}
			s.Cases = append(s.Cases, c)
		}
		x.Sorts = append(x.Sorts, s)
	}
	return x
}

// mostly is one thing, or another.
func (d *dice) mostly(s string, others ...string) string {
	if d.next(12) > 0 {
		return s
	}
	return pick(d, others...)
}

// symbol is mostly the name of a piece.
func (d *dice) symbol(x api.Spec) string {
	if len(x.Pieces) == 0 || d.next(8) == 0 {
		return pick(d, "s", "t", "u", "a", "b")
	}
	return x.Pieces[d.next(len(x.Pieces))].Name
}

// made is an action that mostly has a type.
func (d *dice) made(t api.Type) *api.Expr {
	var texts []string
	switch {
	case d.next(12) == 0:
		texts = []string{"$1", "$2", "x", "[$1, $2]", "[]", "1 + $1", "$1 ++ $2", "len($3)"}
	case t.Kind == api.Int:
		texts = []string{"1", "2 + 3", "len(\"ab\")", "let x = 7 in x * x", "if 1 then 2 else 3"}
	case t.Kind == api.Text:
		texts = []string{"\"a\"", "text(12)", "\"a\" ++ \"b\""}
	case t.Kind == api.Node:
		texts = []string{"node(\"a\", [])", "node(\"b\", [node(\"a\", [])])"}
	case t.Of.Kind == api.Int:
		texts = []string{"[]", "[1, 2]"}
	default:
		texts = []string{"[]", "[[]]", "[[\"a\"], []]"}
	}
	e, _ := action.Read(pick(d, texts...))
	return e
}

// P120 to P122: many small Specs against the chapter's words: which error there is, and of what a tool is made.
func TestFromByTheWords(t *testing.T) {
	d := &dice{seed: 1}
	seen := map[error]int{}
	for range 60000 {
		x := d.small()
		want := planOf(x)
		tool, err := smith.From(x)
		seen[want.err]++
		if want.err != nil {
			if tool != nil {
				t.Fatalf("%+v: an error, and a tool", x)
			}
			checkFault(t, text(x), err, want.err, want.at)
			continue
		}
		if err != nil {
			t.Fatalf("%s: %v at %d", text(x), err, placeOf(err))
		}
		if !same(tool.Rules(), want.rules) || !same(tool.Grammar(), want.grammar) || !same(tool.Table(), want.table) {
			t.Fatalf("%s: made of %+v, %+v", text(x), tool.Rules(), tool.Grammar())
		}
		want.checkTexts(t, d, tool)
	}
	for _, err := range []error{nil, api.ErrName, api.ErrRule, api.ErrType, api.ErrConflict} {
		if seen[err] < 300 {
			t.Errorf("%v: only %d", err, seen[err])
		}
	}
}

func text(x api.Spec) string {
	s, _ := tongue.Write(x)
	return s
}

// checkTexts holds what a tool makes of some texts against the chapter's words.
func (p *plan) checkTexts(t *testing.T, d *dice, tool *smith.Tool) {
	t.Helper()
	for range 8 {
		s := ""
		for range d.next(5) {
			s += pick(d, "a", "b", "c", "d", "é", "+", "\xff", "\n")
		}
		tree, value, err, at := p.read(s)
		if err != nil {
			checkUnread(t, tool, s, err, at)
			continue
		}
		checkRun(t, tool, s, value)
		if got, err := tool.Tree(s); err != nil || parse.Show(got) != parse.Show(tree) {
			t.Errorf("%q: %s, %v, want %s", s, parse.Show(got), err, parse.Show(tree))
		}
	}
}

// read is P121's words.
func (p *plan) read(s string) (*api.Tree, api.Value, error, int) {
	scanner, _ := scan.New(p.rules)
	tokens := scanner.Scan(s)
	var in []int
	var texts []string
	for _, k := range tokens {
		if k.Rule < 0 {
			return nil, api.Value{}, api.ErrSyntax, k.From
		}
		number := 0
		for _, r := range p.rules[:k.Rule] {
			if !r.Skip {
				number++
			}
		}
		in, texts = append(in, number), append(texts, points.Text(points.Points(s[k.From:k.To])))
	}
	tree, err := parse.Parse(p.grammar, p.table, in)
	if err == nil {
		return tree, valueOf(tree, p.actions, texts), nil, 0
	}
	fault := err.(*api.Fault)
	at := len(s)
	if fault.At < len(tokens) {
		at = tokens[fault.At].From
	}
	return nil, api.Value{}, fault.Err, at
}
