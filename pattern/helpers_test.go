package pattern_test

import (
	"slices"
	"testing"

	"grammarsmith/api"
	"grammarsmith/pattern"
	"grammarsmith/points"
)

type set = []api.Range

func setOf(ranges ...api.Range) *api.Re { return &api.Re{Kind: api.RSet, Set: ranges} }
func span(lo, hi int) *api.Re           { return setOf(api.Range{Lo: lo, Hi: hi}) }
func one(p int) *api.Re                 { return span(p, p) }
func cat(kids ...*api.Re) *api.Re       { return &api.Re{Kind: api.RCat, Kids: kids} }
func or(kids ...*api.Re) *api.Re        { return &api.Re{Kind: api.ROr, Kids: kids} }
func and(kids ...*api.Re) *api.Re       { return &api.Re{Kind: api.RAnd, Kids: kids} }
func not(kid *api.Re) *api.Re           { return &api.Re{Kind: api.RNot, Kids: []*api.Re{kid}} }
func rep(kid *api.Re, least, most int) *api.Re {
	return &api.Re{Kind: api.RRep, Min: least, Max: most, Kids: []*api.Re{kid}}
}

// dot is all points but 10.
func dot() *api.Re { return setOf(api.Range{Lo: 0, Hi: 9}, api.Range{Lo: 11, Hi: api.MaxPoint}) }

// nots puts so many nots around a pattern.
func nots(p *api.Re, count int) *api.Re {
	for range count {
		p = not(p)
	}
	return p
}

// times is a list with one pattern, so many times.
func times(p *api.Re, count int) []*api.Re { return slices.Repeat([]*api.Re{p}, count) }

// same holds two patterns against each other; a nil list and an empty one are one thing.
func same(a, b *api.Re) bool {
	if a == nil || b == nil {
		return a == b
	}
	return a.Kind == b.Kind && a.Min == b.Min && a.Max == b.Max && slices.Equal(a.Set, b.Set) && slices.EqualFunc(a.Kids, b.Kids, same)
}

// copyOf is a pattern in memory of its own, also where one stood in two places.
func copyOf(p *api.Re) *api.Re {
	if p == nil {
		return nil
	}
	out := &api.Re{Kind: p.Kind, Min: p.Min, Max: p.Max, Set: slices.Clone(p.Set)}
	for _, k := range p.Kids {
		out.Kids = append(out.Kids, copyOf(k))
	}
	return out
}

func mustRead(t *testing.T, s string) *api.Re {
	t.Helper()
	p, err := pattern.Read(s)
	if err != nil {
		t.Fatalf("Read(%q): %v", s, err)
	}
	return p
}

// dice gives the same numbers each time.
type dice struct{ seed uint32 }

func (d *dice) next(n int) int {
	d.seed = d.seed*1664525 + 1013904223
	return int(d.seed>>8) % n
}

// pattern is a pattern of at most so many levels, most of them valid.
func (d *dice) pattern(levels int) *api.Re {
	kind := 1 + d.next(6)
	if levels == 0 || d.next(4) == 0 {
		kind = api.RSet
	}
	switch kind {
	case api.RCat:
		count := d.next(4)
		if count == 1 {
			count = 2
		}
		return cat(d.kids(levels-1, count)...)
	case api.ROr:
		return or(d.kids(levels-1, 2+d.next(2))...)
	case api.RAnd:
		return and(d.kids(levels-1, 2+d.next(2))...)
	case api.RNot:
		return not(d.pattern(levels - 1))
	case api.RRep:
		least := d.next(3)
		if d.next(2) == 0 {
			return rep(d.pattern(levels-1), least, -1)
		}
		return rep(d.pattern(levels-1), least, max(least, 1)+d.next(2))
	}
	return setOf(d.set()...)
}

func (d *dice) kids(levels, count int) []*api.Re {
	var out []*api.Re
	for range count {
		out = append(out, d.pattern(levels))
	}
	return out
}

// set is mostly one of few letters, so that texts are met.
func (d *dice) set() set {
	switch d.next(8) {
	case 0:
		return nil
	case 1:
		return dot().Set
	case 2:
		return points.Other(set{{Lo: 'a', Hi: 'a' + d.next(3)}})
	case 3:
		return set{{Lo: 'a', Hi: 'c'}}
	}
	p := 'a' + d.next(3)
	return set{{Lo: p, Hi: p}}
}

// validOnes are so many valid patterns of all kinds.
func validOnes(count int) []*api.Re {
	d := &dice{seed: 7}
	var out []*api.Re
	for len(out) < count {
		if p := d.pattern(5); pattern.Ok(p) {
			out = append(out, p)
		}
	}
	return out
}

// odd are patterns that are not valid, each for one reason.
func odd() map[string]*api.Re {
	a := one('a')
	twice := a
	for range 60 {
		twice = cat(twice, twice)
	}
	withSet := func(p *api.Re) *api.Re { p.Set = set{{Lo: 1, Hi: 1}}; return p }
	withMin := func(p *api.Re) *api.Re { p.Min = 1; return p }
	withMax := func(p *api.Re) *api.Re { p.Max = -1; return p }
	withKid := func(p *api.Re) *api.Re { p.Kids = append(p.Kids, one('b')); return p }
	return map[string]*api.Re{
		"nil":                            nil,
		"kind 0":                         {},
		"kind 7":                         {Kind: 7},
		"kind -1":                        {Kind: -1},
		"set with Lo above Hi":           span(3, 2),
		"set below 0":                    span(-1, 2),
		"set above MaxPoint":             span(3, api.MaxPoint+1),
		"set with touching ranges":       setOf(api.Range{Lo: 0, Hi: 4}, api.Range{Lo: 5, Hi: 9}),
		"set out of order":               setOf(api.Range{Lo: 5, Hi: 9}, api.Range{Lo: 0, Hi: 3}),
		"set with Min":                   withMin(one('a')),
		"set with Max":                   withMax(one('a')),
		"set with a kid":                 withKid(one('a')),
		"row of one":                     cat(a),
		"row with Set":                   withSet(cat(a, a)),
		"row with Min":                   withMin(cat()),
		"row with Max":                   withMax(cat(a, a)),
		"or of none":                     or(),
		"or of one":                      or(a),
		"or with Set":                    withSet(or(a, a)),
		"or with Min":                    withMin(or(a, a)),
		"or with Max":                    withMax(or(a, a)),
		"and of none":                    and(),
		"and of one":                     and(a),
		"and with Set":                   withSet(and(a, a)),
		"and with Min":                   withMin(and(a, a)),
		"and with Max":                   withMax(and(a, a)),
		"not of none":                    {Kind: api.RNot},
		"not of two":                     withKid(not(a)),
		"not with Set":                   withSet(not(a)),
		"not with Min":                   withMin(not(a)),
		"not with Max":                   withMax(not(a)),
		"times of none":                  {Kind: api.RRep, Min: 1, Max: 1},
		"times of two":                   withKid(rep(a, 1, 1)),
		"times with Set":                 withSet(rep(a, 1, 1)),
		"times with Min below 0":         rep(a, -1, 1),
		"times with Min below 0, no end": rep(a, -1, -1),
		"times with Min above MaxTimes":  rep(cat(), api.MaxTimes+1, -1),
		"times with Max above MaxTimes":  rep(cat(), 0, api.MaxTimes+1),
		"times with both above MaxTimes": rep(cat(), api.MaxTimes+1, api.MaxTimes+1),
		"times with Max below Min":       rep(a, 3, 2),
		"times with Max 0":               rep(a, 0, 0),
		"times with Max -2":              rep(a, 0, -2),
		"times with the greatest Min":    rep(a, 1<<62, -1),
		"nil in a row":                   cat(a, nil),
		"nil in an or":                   or(nil, a),
		"nil in an and":                  and(a, nil),
		"nil in a not":                   not(nil),
		"nil in a times":                 rep(nil, 0, -1),
		"nil far inside":                 cat(a, or(a, not(rep(and(a, nil), 0, -1)))),
		"not valid inside":               or(a, cat(a)),
		"nested too deep":                nots(a, api.MaxNest+1),
		"nested far too deep":            nots(a, 5000),
		"too heavy row":                  cat(times(a, api.MaxWeight)...),
		"too heavy or":                   or(times(a, api.MaxWeight)...),
		"too heavy and":                  and(times(a, api.MaxWeight)...),
		"too heavy not":                  not(cat(times(a, api.MaxWeight-1)...)),
		"too heavy times by Max":         rep(cat(a), 0, 30),
		"too heavy times in times":       rep(rep(rep(a, 50, 50), 50, 50), 50, 50),
		"a kid in many places":           twice,
		"a long row":                     cat(times(a, 1<<20)...),
	}
}
