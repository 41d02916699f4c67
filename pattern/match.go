package pattern

import (
	"grammarsmith/api"
	"grammarsmith/points"
)

// maxKept is how many words of lengths are kept at most. Beyond that they are found anew each time they are asked for: that may take long, but a long text does not fill the memory.
const maxKept = 1 << 22

// spot is one place in a pattern. known has, by the place in the text where it begins, the lengths of the texts that it stands for.
type spot struct {
	re    *api.Re
	kids  []*spot
	known map[int]lengths
}

func newSpot(p *api.Re) *spot {
	s := &spot{re: p, known: map[int]lengths{}}
	for _, k := range p.Kids {
		s.kids = append(s.kids, newSpot(k))
	}
	return s
}

type matcher struct {
	text []int
	kept int
}

// from gives the lengths of all texts that begin at a place and that a spot stands for.
func (m *matcher) from(s *spot, at int) lengths {
	l, known := s.known[at]
	if known {
		return l
	}
	l = m.find(s, at)
	if m.kept < maxKept {
		s.known[at] = l
		m.kept += len(l) + 1
	}
	return l
}

func (m *matcher) find(s *spot, at int) lengths {
	room := len(m.text) - at
	switch s.re.Kind {
	case api.RSet:
		if room > 0 && points.Has(s.re.Set, m.text[at]) {
			return justOne(1)
		}
		return nil
	case api.RCat:
		out := justOne(0)
		for _, k := range s.kids {
			out = m.behind(out, k, at)
		}
		return out
	case api.ROr:
		var out lengths
		for _, k := range s.kids {
			out = out.join(m.from(k, at), 0)
		}
		return out
	case api.RAnd:
		out := lengths{}.join(m.from(s.kids[0], at), 0)
		for _, k := range s.kids[1:] {
			out = out.meet(m.from(k, at))
		}
		return out
	case api.RNot:
		return m.from(s.kids[0], at).others(room)
	}
	return m.repeat(s, at)
}

// behind gives the lengths of what was taken with a text of the spot behind it.
func (m *matcher) behind(taken lengths, s *spot, at int) lengths {
	var out lengths
	for n := range taken.end() {
		if taken.has(n) {
			out = out.join(m.from(s, at+n), n)
		}
	}
	return out
}

func (m *matcher) repeat(s *spot, at int) lengths {
	kid := s.kids[0]
	last := justOne(0)
	for range s.re.Min {
		last = m.behind(last, kid, at)
	}
	if s.re.Max == -1 {
		return m.onAndOn(last, kid, at)
	}
	out := last
	for range s.re.Max - s.re.Min {
		last = m.behind(last, kid, at)
		out = out.join(last, 0)
	}
	return out
}

// onAndOn adds what any number of texts of the kid behind makes of the lengths. No text ends ahead of where it begins: so one way from the left meets all of them.
func (m *matcher) onAndOn(out lengths, kid *spot, at int) lengths {
	for n := 0; n < out.end(); n++ {
		if out.has(n) {
			out = out.join(m.from(kid, at+n), n)
		}
	}
	return out
}
