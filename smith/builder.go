package smith

import (
	"grammarsmith/action"
	"grammarsmith/api"
	"grammarsmith/copies"
	"grammarsmith/grammar"
	"grammarsmith/parse"
	"grammarsmith/scan"
	"grammarsmith/table"
)

// noPush stands where no mode begins behind a piece.
const noPush = "-"

// builder makes a tool of what a text says. Each of its steps rests on those ahead of it.
type builder struct {
	api.Spec
	cases  []ownedCase
	claims map[string]claim
	tool   *Tool
}

// ownedCase is a case with the number of its sort.
type ownedCase struct {
	api.Case
	sort int
}

// claim is what a name stands for: a symbol, or a piece that is left out, and so is none.
type claim struct {
	symbol  int
	skipped bool
}

func newBuilder(x api.Spec) *builder {
	b := &builder{Spec: x, claims: map[string]claim{}, tool: &Tool{}}
	for i, s := range x.Sorts {
		for _, c := range s.Cases {
			b.cases = append(b.cases, ownedCase{c, i})
		}
	}
	b.tool.grammar.Names = len(x.Sorts)
	return b
}

func fault(err error, at int) error {
	return &api.Fault{Err: err, At: at}
}

// claimNames says what the names of pieces and sorts stand for.
func (b *builder) claimNames() error {
	for i, p := range b.Pieces {
		if !b.claim(p.Name, claim{b.tool.grammar.Terms, p.Skip}) {
			return fault(api.ErrName, i)
		}
		b.tool.terms = append(b.tool.terms, b.tool.grammar.Terms)
		if !p.Skip {
			b.tool.grammar.Terms++
		}
	}
	for i, s := range b.Sorts {
		if !b.claim(s.Name, claim{symbol: symbolOf(i)}) {
			return fault(api.ErrName, i)
		}
	}
	if len(b.Sorts) == 0 {
		return fault(api.ErrName, len(b.Sorts))
	}
	return nil
}

// claim gives a name what it stands for, if it stands for nothing so far.
func (b *builder) claim(name string, c claim) bool {
	if _, taken := b.claims[name]; taken {
		return false
	}
	b.claims[name] = c
	return true
}

// symbolOf is how productions write a sort.
func symbolOf(sort int) int { return -1 - sort }

// symbol gives the symbol of a name, and whether there is one.
func (b *builder) symbol(name string) (int, bool) {
	c, known := b.claims[name]
	return c.symbol, known && !c.skipped
}

// terminal is symbol, of pieces alone.
func (b *builder) terminal(name string) (int, bool) {
	symbol, is := b.symbol(name)
	return symbol, is && symbol >= 0
}

// makeScanner takes the pieces as rules. Modes are numbered as they are come to.
func (b *builder) makeScanner() error {
	modes := map[string]int{"": 0}
	var rules []api.Rule
	for i, p := range b.Pieces {
		r := api.Rule{Name: p.Name, Re: p.Pattern, Mode: numberOf(modes, p.Mode), Skip: p.Skip, Push: -1, Pop: p.Pop}
		if p.Push != noPush {
			r.Push = numberOf(modes, p.Push)
		}
		if len(modes) > api.MaxModes {
			return fault(api.ErrBound, i)
		}
		rules = append(rules, r)
	}
	scanner, err := scan.New(rules)
	if err != nil {
		return err
	}
	b.tool.scanner, b.tool.rules = scanner, copies.Rules(rules)
	return nil
}

// numberOf gives the number of a mode, which is the next one if it has none so far.
func numberOf(modes map[string]int, name string) int {
	n, met := modes[name]
	if !met {
		n = len(modes)
		modes[name] = n
	}
	return n
}

// makeProds makes productions of the cases, without their levels.
func (b *builder) makeProds() error {
	g := &b.tool.grammar
	for i, c := range b.cases {
		p := api.Prod{Left: c.sort}
		for _, name := range c.Symbols {
			symbol, is := b.symbol(name)
			if !is {
				return fault(api.ErrName, i)
			}
			p.Right = append(p.Right, symbol)
		}
		if _, is := b.terminal(c.Level); c.Level != "" && !is {
			return fault(api.ErrName, i)
		}
		g.Prods = append(g.Prods, p)
	}
	return nil
}

// makeLevels takes the ranks as levels of terminals, and by these of productions.
func (b *builder) makeLevels() error {
	g := &b.tool.grammar
	g.Levels = make([]int, g.Terms)
	for i, r := range b.Ranks {
		for _, name := range r.Names {
			t, is := b.terminal(name)
			if !is || g.Levels[t] != 0 {
				return fault(api.ErrName, i)
			}
			g.Levels[t] = i + 1
		}
		g.Sides = append(g.Sides, r.Side)
	}
	for i, c := range b.cases {
		g.Prods[i].Level = b.levelOf(c, g.Prods[i].Right)
	}
	return nil
}

// levelOf gives the level of a case: that of the piece that it names, or of the last terminal in it.
func (b *builder) levelOf(c ownedCase, right []int) int {
	levels := b.tool.grammar.Levels
	if t, is := b.terminal(c.Level); c.Level != "" && is {
		return levels[t]
	}
	for i := len(right) - 1; i >= 0; i-- {
		if right[i] >= 0 {
			return levels[right[i]]
		}
	}
	return 0
}

func (b *builder) checkBounds() error {
	if !grammar.Ok(b.tool.grammar) {
		return fault(api.ErrBound, 0)
	}
	return nil
}

// checkActions asks of each action whether it makes what its sort says.
func (b *builder) checkActions() error {
	for i, c := range b.cases {
		made, err := action.Check(c.Action, b.typesOf(b.tool.grammar.Prods[i].Right))
		if err == nil && !action.Fits(made, b.Sorts[c.sort].Type) {
			err = api.ErrType
		}
		if err != nil {
			return fault(err, i)
		}
		b.tool.actions = append(b.tool.actions, copies.Expr(c.Action))
	}
	return nil
}

// typesOf gives the types of what symbols become.
func (b *builder) typesOf(right []int) []api.Type {
	var out []api.Type
	for _, symbol := range right {
		t := api.Type{Kind: api.Text}
		if symbol < 0 {
			t = b.Sorts[symbolOf(symbol)].Type
		}
		out = append(out, t)
	}
	return out
}

func (b *builder) makeTable() error {
	t, err := table.LALR(b.tool.grammar)
	if err != nil {
		return err
	}
	if len(t.Conflicts) > 0 {
		return fault(api.ErrConflict, t.Conflicts[0].State)
	}
	b.tool.table = t
	b.tool.start, err = parse.NewCourse(b.tool.grammar, t)
	return err
}
