package auto

import (
	"slices"

	"grammarsmith/api"
	"grammarsmith/pattern"
)

// makeAll gives the pieces of patterns, over one alphabet, or the first fault; its place is the number of the pattern.
func makeAll(l []*api.Re) ([]*piece, *alphabet, *api.Fault) {
	valid := l
	if i := slices.IndexFunc(l, func(p *api.Re) bool { return !pattern.Ok(p) }); i >= 0 {
		valid = l[:i]
	}
	x := alphabetOf(valid)
	var made []*piece
	for i, p := range valid {
		a, small := x.make(p)
		if !small {
			return nil, nil, &api.Fault{Err: api.ErrBound, At: i}
		}
		made = append(made, a)
	}
	if len(valid) < len(l) {
		return nil, nil, &api.Fault{Err: api.ErrSyntax, At: len(valid)}
	}
	return made, x, nil
}

// piece is a pattern with its least automaton. In a net it stands as that, or, if this takes fewer knots, as its kids put together: `.*a.{7}` has ten of them, and its automaton 256 states.
type piece struct {
	re    *api.Re
	kids  []*piece
	auto  api.Auto
	whole bool // it stands as its automaton
	knots int  // that it takes in a net
}

// make gives the piece of a valid pattern, unless its least automaton, or that of a pattern in it, has more than MaxStates states.
func (x *alphabet) make(p *api.Re) (*piece, bool) {
	if p.Kind == api.RSet {
		a := x.ofSet(p.Set)
		return &piece{re: p, auto: a, whole: true, knots: len(a.States)}, true
	}
	made := &piece{re: p}
	for _, k := range p.Kids {
		kid, small := x.make(k)
		if !small {
			return nil, false
		}
		made.kids = append(made.kids, kid)
	}
	a, small := settle(x.netsOf(made))
	if !small {
		return nil, false
	}
	made.auto = a
	made.choose()
	return made, true
}

// choose says how a piece is to stand in a net.
func (p *piece) choose() {
	apart := 0
	for _, k := range p.kids {
		apart += k.knots
	}
	if p.re.Kind == api.RRep {
		apart *= max(p.re.Min, p.re.Max, 1)
	}
	p.knots = len(p.auto.States)
	p.whole = p.re.Kind == api.RAnd || p.re.Kind == api.RNot || p.knots <= apart
	if !p.whole {
		p.knots = apart
	}
}

// netsOf gives the nets of a pattern whose kids are made: one, or several that stand for the same, of which one may be far harder than another.
func (x *alphabet) netsOf(p *piece) []*net {
	switch p.re.Kind {
	case api.ROr:
		return []*net{either(autosOf(p.kids))}
	case api.RNot:
		return []*net{either(x.others(autosOf(p.kids)))}
	case api.RAnd:
		// What all stand for is what is no text that one of them does not stand for.
		n := either(x.others(autosOf(p.kids)))
		n.turned = true
		return []*net{n}
	}
	nets := []*net{together(p)}
	if slices.ContainsFunc(p.kids, func(k *piece) bool { return !k.whole }) {
		nets = append(nets, together(&piece{re: p.re, kids: asWholes(p.kids)}))
	}
	return nets
}

func autosOf(l []*piece) []api.Auto {
	var out []api.Auto
	for _, p := range l {
		out = append(out, p.auto)
	}
	return out
}

func asWholes(l []*piece) []*piece {
	var out []*piece
	for _, p := range l {
		out = append(out, &piece{auto: p.auto, whole: true})
	}
	return out
}
