package action

import "grammarsmith/api"

// reader goes through the tokens of a text; token is the one that comes. What is wrong is thrown, as a *api.Fault.
type reader struct {
	cutter
	token token
}

func readWhole(s string) *api.Expr {
	if len(s) > api.MaxText {
		throw(api.ErrBound, api.MaxText)
	}
	r := &reader{cutter: cutter{text: s}}
	r.step()
	e := r.expression()
	r.want("")
	if !Ok(e) {
		throw(api.ErrBound, 0)
	}
	return e
}

func throw(err error, at int) {
	panic(&api.Fault{Err: err, At: at})
}

// wrong: the token that comes cannot stand there, or is none.
func (r *reader) wrong() {
	throw(api.ErrSyntax, r.token.from)
}

// step goes behind the token that comes, and gives it.
func (r *reader) step() token {
	t := r.token
	r.token = r.next()
	return t
}

func (r *reader) comes(mark string) bool {
	return r.token.kind == aMark && r.token.text == mark
}

// take goes behind a mark, if it comes.
func (r *reader) take(mark string) bool {
	if !r.comes(mark) {
		return false
	}
	r.step()
	return true
}

func (r *reader) want(mark string) {
	if !r.comes(mark) {
		r.wrong()
	}
	r.step()
}

func (r *reader) expression() *api.Expr {
	switch {
	case r.take("let"):
		return r.let()
	case r.take("if"):
		return r.choice()
	}
	return r.operators(comparing)
}

func (r *reader) let() *api.Expr {
	name := r.name()
	r.want("=")
	value := r.expression()
	r.want("in")
	return &api.Expr{Kind: api.ELet, Text: name, Kids: []*api.Expr{value, r.expression()}}
}

func (r *reader) name() string {
	if r.token.kind != aName {
		r.wrong()
	}
	return r.step().text
}

func (r *reader) choice() *api.Expr {
	test := r.expression()
	r.want("then")
	then := r.expression()
	r.want("else")
	return &api.Expr{Kind: api.EIf, Kids: []*api.Expr{test, then, r.expression()}}
}

// operators reads what operators of a level, and tighter ones, hold together.
func (r *reader) operators(level int) *api.Expr {
	if level == negating {
		return r.negated()
	}
	e := r.operators(level + 1)
	for r.token.kind == aMark && levelOf(r.token.text) == level {
		operator := r.step().text
		e = &api.Expr{Kind: api.EOp, Text: operator, Kids: []*api.Expr{e, r.operators(level + 1)}}
		// Of those that compare no two stand beside one another: a second one is left for whoever reads on, and cannot stand there.
		if level == comparing {
			break
		}
	}
	return e
}

func (r *reader) negated() *api.Expr {
	if r.take("-") {
		return &api.Expr{Kind: api.ENeg, Kids: []*api.Expr{r.negated()}}
	}
	return r.unit()
}

func (r *reader) unit() *api.Expr {
	switch r.token.kind {
	case aNumber:
		return &api.Expr{Kind: api.ENum, Num: r.step().num}
	case aText:
		return &api.Expr{Kind: api.EText, Text: r.step().text}
	case aPlace:
		return &api.Expr{Kind: api.EArg, Num: r.step().num}
	case aName:
		return &api.Expr{Kind: api.EName, Text: r.step().text}
	case aMark:
		return r.enclosed()
	}
	r.wrong()
	return nil
}

// enclosed reads what ends with a bracket.
func (r *reader) enclosed() *api.Expr {
	switch {
	case r.take("("):
		e := r.expression()
		r.want(")")
		return e
	case r.take("["):
		return &api.Expr{Kind: api.EList, Kids: r.elements()}
	case takes(r.token.text) > 0:
		return r.call(r.step().text)
	}
	r.wrong()
	return nil
}

// elements reads what stands behind a [, and the ].
func (r *reader) elements() []*api.Expr {
	var kids []*api.Expr
	if r.take("]") {
		return kids
	}
	kids = append(kids, r.expression())
	for r.take(",") {
		kids = append(kids, r.expression())
	}
	r.want("]")
	return kids
}

func (r *reader) call(function string) *api.Expr {
	r.want("(")
	kids := []*api.Expr{r.expression()}
	for len(kids) < takes(function) {
		r.want(",")
		kids = append(kids, r.expression())
	}
	r.want(")")
	return &api.Expr{Kind: api.ECall, Text: function, Kids: kids}
}
