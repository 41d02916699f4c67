package smith

import (
	"slices"
	"strings"

	"grammarsmith/api"
	"grammarsmith/pattern"
	"grammarsmith/phrase"
)

// teller tells what a value of the tongue's own tool says. All values in it are nodes; where one is not as the tool makes it that is wrong, and nothing counts that was told.
type teller struct {
	said  api.Spec
	wrong bool
	room  int // how many expressions may still stand in the action that is told
}

// parts gives the kids of a node of a kind: so many, and those behind them.
func (t *teller) parts(v api.Value, kind string, count int) (kids, more []api.Value) {
	if v.Text != kind || len(v.List) < count {
		t.wrong = true
		return make([]api.Value, count), nil
	}
	return v.List[:count], v.List[count:]
}

// kids is parts, of a node that has just so many.
func (t *teller) kids(v api.Value, kind string, count int) []api.Value {
	kids, more := t.parts(v, kind, count)
	t.wrong = t.wrong || len(more) > 0
	return kids
}

// row gives the things in a row: its node has the last one behind the rest of the row, or that one alone, or nothing.
func (t *teller) row(v api.Value) []api.Value {
	var out []api.Value
	for v.Text == "row" && len(v.List) == 2 {
		out = append(out, v.List[1])
		v = v.List[0]
	}
	t.wrong = t.wrong || v.Text != "row" || len(v.List) > 1
	out = append(out, v.List...)
	slices.Reverse(out)
	return out
}

// word gives the text of a node that has nothing else.
func (t *teller) word(v api.Value) string {
	t.wrong = t.wrong || len(v.List) > 0
	return v.Text
}

func (t *teller) name(v api.Value) string {
	t.wrong = t.wrong || !phrase.IsName(v.Text)
	return t.word(v)
}

// names gives the names of all of some nodes; nil, if there are none.
func (t *teller) names(l []api.Value) []string {
	var out []string
	for _, v := range l {
		out = append(out, t.name(v))
	}
	return out
}

// atMostOne gives the name that one node is; "" where there is none.
func (t *teller) atMostOne(l []api.Value) string {
	t.wrong = t.wrong || len(l) > 1
	return strings.Join(t.names(l), "")
}

func (t *teller) spec(v api.Value) {
	kids := t.kids(v, "spec", 2)
	t.said.Name = t.name(kids[0])
	for _, k := range t.row(kids[1]) {
		t.part(k)
	}
}

func (t *teller) part(v api.Value) {
	switch v.Text {
	case "tokens":
		kids, more := t.parts(v, "tokens", 1)
		mode := t.atMostOne(more)
		for _, k := range t.row(kids[0]) {
			t.said.Pieces = append(t.said.Pieces, t.piece(k, mode))
		}
	case "levels":
		for _, k := range t.row(t.kids(v, "levels", 1)[0]) {
			t.said.Ranks = append(t.said.Ranks, t.rank(k))
		}
	case "rules":
		for _, k := range t.row(t.kids(v, "rules", 1)[0]) {
			t.said.Sorts = append(t.said.Sorts, t.sort(k))
		}
	default:
		t.wrong = true
	}
}

func (t *teller) piece(v api.Value, mode string) api.Piece {
	kids, turns := t.parts(v, "piece", 2)
	p := api.Piece{Name: t.name(kids[0]), Mode: mode, Pattern: t.pattern(kids[1]), Push: noPush}
	for _, k := range turns {
		switch k.Text {
		case "skip":
			t.kids(k, "skip", 0)
			p.Skip = true
		case "pop":
			t.kids(k, "pop", 0)
			p.Pop = true
		default:
			p.Push = t.name(t.kids(k, "push", 1)[0])
		}
	}
	return p
}

func (t *teller) pattern(v api.Value) *api.Re {
	between, opened := strings.CutPrefix(t.word(v), fence)
	between, closed := strings.CutSuffix(between, fence)
	p, err := pattern.Read(between)
	t.wrong = t.wrong || !opened || !closed || err != nil
	return p
}

func (t *teller) rank(v api.Value) api.Rank {
	kids := t.kids(v, v.Text, 2)
	return api.Rank{Side: sideOf(v.Text), Names: t.names(append(kids[:1:1], t.row(kids[1])...))}
}

// sideOf gives the side that a word says; 0: none.
func sideOf(word string) int {
	switch word {
	case "left":
		return api.ToLeft
	case "right":
		return api.ToRight
	case "none":
		return api.ToNone
	}
	return 0
}

func (t *teller) sort(v api.Value) api.Sort {
	kids := t.kids(v, "sort", 4)
	s := api.Sort{Name: t.name(kids[0]), Type: typeOf(t.word(kids[2]))}
	for range t.row(kids[1]) {
		of := s.Type
		s.Type = api.Type{Kind: api.List, Of: &of}
	}
	for _, k := range t.row(kids[3]) {
		s.Cases = append(s.Cases, t.oneCase(k))
	}
	return s
}

// typeOf gives the type that a word says; one that is none, if the word says none.
func typeOf(word string) api.Type {
	switch word {
	case "int":
		return api.Type{Kind: api.Int}
	case "text":
		return api.Type{Kind: api.Text}
	case "node":
		return api.Type{Kind: api.Node}
	}
	return api.Type{}
}

func (t *teller) oneCase(v api.Value) api.Case {
	kids, level := t.parts(v, "case", 2)
	t.room = api.MaxExpr
	return api.Case{Symbols: t.names(t.row(kids[0])), Level: t.atMostOne(level), Action: t.expression(kids[1])}
}

// expression goes no deeper than an expression may be that is valid.
func (t *teller) expression(v api.Value) *api.Expr {
	t.room--
	if t.room < 0 {
		t.wrong = true
		return nil
	}
	switch v.Text {
	case "leaf":
		return t.leaf(v)
	case "negated":
		return t.negated(v)
	case "list":
		return &api.Expr{Kind: api.EList, Kids: t.expressions(t.row(t.kids(v, "list", 1)[0]))}
	}
	return t.composed(v)
}

func (t *teller) expressions(l []api.Value) []*api.Expr {
	var out []*api.Expr
	for _, v := range l {
		out = append(out, t.expression(v))
	}
	return out
}

// leaf tells an expression that is one token.
func (t *teller) leaf(v api.Value) *api.Expr {
	e := phrase.TokenOf(t.word(t.kids(v, "leaf", 1)[0])).Leaf()
	t.wrong = t.wrong || e == nil
	return e
}

func (t *teller) negated(v api.Value) *api.Expr {
	kids := t.kids(v, "negated", 2)
	e := t.expression(kids[1])
	for range t.row(kids[0]) {
		e = &api.Expr{Kind: api.ENeg, Kids: []*api.Expr{e}}
	}
	return e
}

// composed tells an expression whose kids are those of its node, behind its word, if it has one. Whether they are as many as there should be is not asked here.
func (t *teller) composed(v api.Value) *api.Expr {
	e, kids := &api.Expr{Kind: kindOf(v.Text)}, v.List
	switch e.Kind {
	case api.ELet, api.EOp, api.ECall:
		words, behind := t.parts(v, v.Text, 1)
		e.Text, kids = t.word(words[0]), behind
		fallthrough
	case api.EIf:
		e.Kids = t.expressions(kids)
	default:
		t.wrong = true
	}
	return e
}

// kindOf gives the kind of expressions of which a node is; 0: of none.
func kindOf(word string) int {
	switch word {
	case "let":
		return api.ELet
	case "if":
		return api.EIf
	case "operation":
		return api.EOp
	case "call":
		return api.ECall
	}
	return 0
}
