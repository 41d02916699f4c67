package action

import "grammarsmith/api"

// claim is that all values of a list are of a shape.
type claim struct {
	list []api.Value
	of   shape
}

// spot tells claims apart: where a list begins, how long it is, and of which shape its values should be.
type spot struct {
	first *api.Value
	count int
	of    shape
}

// allHave says whether all values of a list are of a shape. A list that stands in many places is gone through but once.
func allHave(list []api.Value, of shape) bool {
	work := []claim{{list, of}}
	met := map[spot]struct{}{}
	for len(work) > 0 {
		c := work[len(work)-1]
		work = work[:len(work)-1]
		for i := range c.list {
			v := &c.list[i]
			if !looks(v, c.of) {
				return false
			}
			if len(v.List) == 0 {
				continue
			}
			inner := within(c.of)
			s := spot{&v.List[0], len(v.List), inner}
			if _, known := met[s]; !known {
				met[s] = struct{}{}
				work = append(work, claim{v.List, inner})
			}
		}
	}
	return true
}

// within gives the shape of what is in the list of a value that looks as a shape asks.
func within(s shape) shape {
	if s.isList() {
		inner, _ := s.element()
		return inner
	}
	return s
}

// looks says whether the fields of a value are as a shape asks; it does not look at the values in its list.
func looks(v *api.Value, s shape) bool {
	if s.isList() {
		_, mayHave := s.element()
		return v.Kind == api.List && v.Num == 0 && v.Text == "" && (mayHave || len(v.List) == 0)
	}
	switch s.base {
	case api.Int:
		return v.Kind == api.Int && v.Text == "" && len(v.List) == 0
	case api.Text:
		return v.Kind == api.Text && v.Num == 0 && len(v.List) == 0
	}
	return v.Kind == api.Node && v.Num == 0
}
