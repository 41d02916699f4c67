package phrase

import "grammarsmith/api"

// Expression reads the expression that comes. Whether it is valid is not asked here.
func (r *Reader) Expression() *api.Expr {
	switch {
	case r.Take("let"):
		return r.let()
	case r.Take("if"):
		return r.choice()
	}
	return r.operators(Comparing)
}

func (r *Reader) let() *api.Expr {
	name := r.Name()
	r.Want("=")
	value := r.Expression()
	r.Want("in")
	return &api.Expr{Kind: api.ELet, Text: name, Kids: []*api.Expr{value, r.Expression()}}
}

func (r *Reader) choice() *api.Expr {
	test := r.Expression()
	r.Want("then")
	then := r.Expression()
	r.Want("else")
	return &api.Expr{Kind: api.EIf, Kids: []*api.Expr{test, then, r.Expression()}}
}

// operators reads what operators of a level, and tighter ones, hold together.
func (r *Reader) operators(level int) *api.Expr {
	if level == Negating {
		return r.negated()
	}
	e := r.operators(level + 1)
	for r.Token.Kind == Mark && LevelOf(r.Token.Text) == level {
		operator := r.Step().Text
		e = &api.Expr{Kind: api.EOp, Text: operator, Kids: []*api.Expr{e, r.operators(level + 1)}}
		// Of those that compare no two stand beside one another: a second one is left for whoever reads on, and cannot stand there.
		if level == Comparing {
			break
		}
	}
	return e
}

func (r *Reader) negated() *api.Expr {
	if r.Take("-") {
		return &api.Expr{Kind: api.ENeg, Kids: []*api.Expr{r.negated()}}
	}
	return r.unit()
}

func (r *Reader) unit() *api.Expr {
	switch r.Token.Kind {
	case Number, Text, Place, Name:
		return r.Step().Leaf()
	case LongName:
		r.Name()
	case Mark:
		return r.enclosed()
	}
	r.Wrong()
	return nil
}

// enclosed reads what ends with a bracket.
func (r *Reader) enclosed() *api.Expr {
	switch {
	case r.Take("("):
		e := r.Expression()
		r.Want(")")
		return e
	case r.Take("["):
		return &api.Expr{Kind: api.EList, Kids: r.elements()}
	case Takes(r.Token.Text) > 0:
		return r.call(r.Step().Text)
	}
	r.Wrong()
	return nil
}

// elements reads what stands behind a [, and the ].
func (r *Reader) elements() []*api.Expr {
	var kids []*api.Expr
	if r.Take("]") {
		return kids
	}
	kids = append(kids, r.Expression())
	for r.Take(",") {
		kids = append(kids, r.Expression())
	}
	r.Want("]")
	return kids
}

func (r *Reader) call(function string) *api.Expr {
	r.Want("(")
	kids := []*api.Expr{r.Expression()}
	for len(kids) < Takes(function) {
		r.Want(",")
		kids = append(kids, r.Expression())
	}
	r.Want(")")
	return &api.Expr{Kind: api.ECall, Text: function, Kids: kids}
}
