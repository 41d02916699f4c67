package tongue

import (
	"errors"

	"grammarsmith/action"
	"grammarsmith/api"
	"grammarsmith/pattern"
	"grammarsmith/phrase"
)

// reader reads a text of the tongue part by part.
type reader struct {
	*phrase.Reader
	said api.Spec
}

func readSpec(tokens *phrase.Reader) api.Spec {
	r := &reader{Reader: tokens}
	r.Want("grammar")
	r.said.Name = r.Name()
	for r.part() {
	}
	return r.said
}

// part reads a part, if one comes.
func (r *reader) part() bool {
	switch {
	case r.Take("tokens"):
		r.pieces()
	case r.Take("levels"):
		r.ranks()
	case r.Take("rules"):
		r.sorts()
	default:
		return false
	}
	return true
}

func (r *reader) pieces() {
	mode := ""
	if r.Take(":") {
		mode = r.Name()
	}
	for r.NameComes() {
		r.said.Pieces = append(r.said.Pieces, r.piece(mode))
	}
}

func (r *reader) piece(mode string) api.Piece {
	p := api.Piece{Name: r.Name(), Mode: mode, Push: noPush}
	r.Want("=")
	p.Pattern = r.pattern()
	for r.turn(&p) {
	}
	r.Want(";")
	return p
}

// pattern tells a pattern's fault by where it stands in the whole text.
func (r *reader) pattern() *api.Re {
	if r.Token.Kind != phrase.Pattern {
		r.Wrong()
	}
	t := r.Step()
	p, err := pattern.Read(t.Text)
	var fault *api.Fault
	if errors.As(err, &fault) {
		phrase.Throw(fault.Err, t.From+len(fence)+fault.At)
	}
	return p
}

// turn reads what a piece does, if that comes and was not said of it yet.
func (r *reader) turn(p *api.Piece) bool {
	switch {
	case !p.Skip && r.Take("skip"):
		p.Skip = true
	case !p.Pop && r.Take("pop"):
		p.Pop = true
	case p.Push == noPush && r.Take("push"):
		p.Push = r.Name()
	default:
		return false
	}
	return true
}

func (r *reader) ranks() {
	for {
		side := r.side()
		if side == 0 {
			return
		}
		r.said.Ranks = append(r.said.Ranks, api.Rank{Side: side, Names: append([]string{r.Name()}, r.names()...)})
		r.Want(";")
	}
}

// side goes behind a side, if one comes; else it gives 0.
func (r *reader) side() int {
	for _, side := range []int{api.ToLeft, api.ToRight, api.ToNone} {
		if r.Take(sideOf(side)) {
			return side
		}
	}
	return 0
}

// names reads all names that come.
func (r *reader) names() []string {
	var names []string
	for r.NameComes() {
		names = append(names, r.Name())
	}
	return names
}

func (r *reader) sorts() {
	for r.NameComes() {
		r.said.Sorts = append(r.said.Sorts, r.sort())
	}
}

func (r *reader) sort() api.Sort {
	s := api.Sort{Name: r.Name()}
	r.Want(":")
	s.Type = r.typeThatComes()
	r.Want("=")
	s.Cases = append(s.Cases, r.oneCase())
	for r.Take("|") {
		s.Cases = append(s.Cases, r.oneCase())
	}
	r.Want(";")
	return s
}

func (r *reader) typeThatComes() api.Type {
	if r.Take("list") {
		of := r.typeThatComes()
		return api.Type{Kind: api.List, Of: &of}
	}
	for _, kind := range []int{api.Int, api.Text, api.Node} {
		if r.Take(kindOf(kind)) {
			return api.Type{Kind: kind}
		}
	}
	r.Wrong()
	return api.Type{}
}

func (r *reader) oneCase() api.Case {
	c := api.Case{Symbols: r.names()}
	if r.Take("%") {
		c.Level = r.Name()
	}
	r.Want("{")
	c.Action = r.action()
	r.Want("}")
	return c
}

// action reads an expression. It is weighed ahead of what follows it: that stands further to the right.
func (r *reader) action() *api.Expr {
	at := r.Token.From
	e := r.Expression()
	if !action.Ok(e) {
		phrase.Throw(api.ErrBound, at)
	}
	return e
}
