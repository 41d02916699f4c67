package action

import "grammarsmith/api"

// checker finds the shapes of expressions beside arguments of some shapes.
type checker struct {
	args []shape
}

// shape gives the shape of a valid expression within some lets.
func (c *checker) shape(e *api.Expr, names []named[shape]) (shape, error) {
	switch e.Kind {
	case api.EArg:
		if e.Num > int64(len(c.args)) {
			return shape{}, api.ErrName
		}
		return c.args[e.Num-1], nil
	case api.EName:
		s, known := lookUp(names, e.Text)
		if !known {
			return shape{}, api.ErrName
		}
		return s, nil
	case api.ELet:
		s, err := c.shape(e.Kids[0], names)
		if err != nil {
			return shape{}, err
		}
		return c.shape(e.Kids[1], append(names, named[shape]{e.Text, s}))
	}
	var kids []shape
	for _, k := range e.Kids {
		s, err := c.shape(k, names)
		if err != nil {
			return shape{}, err
		}
		kids = append(kids, s)
	}
	s, asAsked := made(e, kids)
	if !asAsked {
		return shape{}, api.ErrType
	}
	return s, nil
}

// made gives the shape of what is made of kids of some shapes, and whether these are as asked.
func made(e *api.Expr, kids []shape) (shape, bool) {
	switch e.Kind {
	case api.ENum:
		return simple(api.Int), true
	case api.EText:
		return simple(api.Text), true
	case api.ENeg:
		return simple(api.Int), are(kids, api.Int)
	case api.EIf:
		s, joins := join(kids[1], kids[2])
		return s, joins && kids[0] == simple(api.Int)
	case api.EOp:
		return operated(e.Text, kids)
	case api.EList:
		return listOf(kids)
	}
	return called(e.Text, kids)
}

// simple gives the shape of a kind that is no List.
func simple(kind int) shape { return shape{base: kind} }

// are says whether kids are of some kinds that are no Lists.
func are(kids []shape, kinds ...int) bool {
	for i, kind := range kinds {
		if kids[i] != simple(kind) {
			return false
		}
	}
	return true
}

func operated(operator string, kids []shape) (shape, bool) {
	whole := simple(api.Int)
	switch operator {
	case "==":
		_, joins := join(kids[0], kids[1])
		return whole, joins
	case "<":
		return whole, are(kids, api.Int, api.Int) || are(kids, api.Text, api.Text)
	case "++":
		s, joins := join(kids[0], kids[1])
		return s, joins && (s.isList() || s == simple(api.Text))
	}
	return whole, are(kids, api.Int, api.Int)
}

func listOf(kids []shape) (shape, bool) {
	if len(kids) == 0 {
		return shape{lists: 1}, true
	}
	all := kids[0]
	for _, k := range kids[1:] {
		s, joins := join(all, k)
		if !joins {
			return shape{}, false
		}
		all = s
	}
	return shape{all.lists + 1, all.base}, true
}

func called(function string, kids []shape) (shape, bool) {
	nodes := shape{1, api.Node}
	switch function {
	case "len":
		return simple(api.Int), kids[0].isList() || kids[0] == simple(api.Text)
	case "text":
		return simple(api.Text), are(kids, api.Int)
	case "int":
		return simple(api.Int), are(kids, api.Text, api.Int)
	case "node":
		return simple(api.Node), are(kids, api.Text) && kids[1].fits(nodes)
	case "tag":
		return simple(api.Text), are(kids, api.Node)
	case "kids":
		return nodes, are(kids, api.Node)
	}
	return picked(kids)
}

// picked gives the shape of an element, or of the value that stands for one where there is none.
func picked(kids []shape) (shape, bool) {
	if !kids[0].isList() || kids[1] != simple(api.Int) {
		return shape{}, false
	}
	element, is := kids[0].element()
	if !is {
		return kids[2], true
	}
	return join(element, kids[2])
}
