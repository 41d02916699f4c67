package action

import "grammarsmith/api"

// shape is a type in two numbers: base stands within so many Lists. base is api.Int, api.Text or api.Node, or none in the innermost of some Lists, of which nothing is known but that it has no elements.
type shape struct {
	lists, base int
}

const none = 0

func (s shape) isList() bool { return s.lists > 0 }

// shapeOf gives the shape of a type, and whether it is one. One that lies in itself is none: who goes round there meets a mark again that is set anew at each doubling of the way.
func shapeOf(t api.Type) (shape, bool) {
	s := shape{}
	var mark *api.Type
	for t.Kind == api.List {
		s.lists++
		if t.Of == nil {
			return s, true
		}
		if t.Of == mark {
			return shape{}, false
		}
		if s.lists&(s.lists-1) == 0 {
			mark = t.Of
		}
		t = *t.Of
	}
	s.base = t.Kind
	switch t.Kind {
	case api.Int, api.Text, api.Node:
		return s, t.Of == nil
	}
	return shape{}, false
}

// typeOf gives the type of a shape, in memory of its own.
func (s shape) typeOf() api.Type {
	t := api.Type{Kind: s.base}
	left := s.lists
	if s.base == none {
		t.Kind = api.List
		left--
	}
	for range left {
		inner := t
		t = api.Type{Kind: api.List, Of: &inner}
	}
	return t
}

// fits: a List without elements is one of any List; so is a List of such, of any List of Lists, and so on.
func (s shape) fits(other shape) bool {
	return s == other || s.base == none && s.lists <= other.lists
}

// join gives the shape of which the values of both are. Types have no more than one way inwards: so two Lists of which none fits the other have no join of what is in them, either.
func join(a, b shape) (shape, bool) {
	if a.fits(b) {
		return b, true
	}
	return a, b.fits(a)
}

// element gives the shape of a List's elements, and whether there is one.
func (s shape) element() (shape, bool) {
	if s.lists == 1 && s.base == none {
		return shape{}, false
	}
	return shape{s.lists - 1, s.base}, true
}
