package parse

import "grammarsmith/api"

// leaf is the Prod of a tree that is a terminal.
const leaf = -1

// deed is what acts of one kind do.
type deed struct {
	do func(to int) error
}

// parser reads terminals by a table that fits the grammar.
type parser struct {
	grammar  api.Grammar
	table    api.Table
	deeds    [api.ActAccept + 1]deed // by the kinds of acts
	in       []int
	at       int // the number of the next terminal
	reduced  int // how many reductions were done ahead of it
	top      *pile
	accepted bool
}

func parserOf(g api.Grammar, t api.Table, in []int) *parser {
	return parserFrom(&pile{}, g, t, in)
}

// parserFrom goes on where others have come to.
func parserFrom(top *pile, g api.Grammar, t api.Table, in []int) *parser {
	p := &parser{grammar: g, table: t, in: in, top: top}
	p.deeds[api.ActNone].do = p.refuse
	p.deeds[api.ActShift].do = p.shift
	p.deeds[api.ActReduce].do = p.reduce
	p.deeds[api.ActAccept].do = p.accept
	return p
}

// step does one thing: what the table says of the next terminal.
func (p *parser) step() error {
	term, known := p.ahead()
	if !known {
		return p.fault(api.ErrEnd)
	}
	act := p.table.Acts[p.top.state][term]
	return p.deeds[act.Kind].do(act.To)
}

// rest gives the tree of all that is read up to the end.
func (p *parser) rest() (*api.Tree, error) {
	for !p.accepted {
		if err := p.step(); err != nil {
			return nil, err
		}
	}
	return p.top.tree, nil
}

// ahead gives the next terminal, or Terms at the end, and whether it is one of the grammar's.
func (p *parser) ahead() (int, bool) {
	if p.at == len(p.in) {
		return p.grammar.Terms, true
	}
	term := p.in[p.at]
	return term, term >= 0 && term < p.grammar.Terms
}

func (p *parser) fault(err error) error {
	return &api.Fault{Err: err, At: p.at}
}

func (p *parser) refuse(int) error {
	return p.fault(api.ErrEnd)
}

func (p *parser) shift(state int) error {
	p.top = p.top.with(&api.Tree{Prod: leaf, Token: p.at}, state)
	p.at++
	p.reduced = 0
	return nil
}

func (p *parser) reduce(prod int) error {
	if p.reduced == api.MaxReduce {
		return p.fault(api.ErrBound)
	}
	rule := p.grammar.Prods[prod]
	if p.top.height < len(rule.Right) {
		return p.fault(api.ErrRule)
	}
	kids, rest := p.top.parted(len(rule.Right))
	state := p.table.Gotos[rest.state][rule.Left]
	if state == nowhere {
		return p.fault(api.ErrRule)
	}
	p.top = rest.with(&api.Tree{Prod: prod, Kids: kids}, state)
	p.reduced++
	return nil
}

func (p *parser) accept(int) error {
	if p.top.height != 1 || !p.isOfStart(p.top.tree) {
		return p.fault(api.ErrRule)
	}
	p.accepted = true
	return nil
}

func (p *parser) isOfStart(r *api.Tree) bool {
	return r.Prod != leaf && p.grammar.Prods[r.Prod].Left == p.grammar.Start
}

// nextOnes gives the terminals that can be shifted behind what was read, and Terms, if it can be accepted.
func (p *parser) nextOnes() []int {
	var out []int
	for term := range p.grammar.Terms {
		if p.goesOn([]int{term}) {
			out = append(out, term)
		}
	}
	if p.goesOn(nil) {
		out = append(out, p.grammar.Terms)
	}
	return out
}

// goesOn: whether one terminal behind what was read is shifted, or, where there is none, the end is accepted.
func (p *parser) goesOn(one []int) bool {
	trial := parserFrom(p.top, p.grammar, p.table, one)
	for !trial.accepted && trial.at == 0 {
		if trial.step() != nil {
			return false
		}
	}
	return true
}
