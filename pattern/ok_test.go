package pattern_test

import (
	"testing"

	"grammarsmith/api"
	"grammarsmith/pattern"
)

// P20: each kind as it may be, and the edges.
func TestOkOfWhatIsValid(t *testing.T) {
	a := one('a')
	const weight, most = api.MaxWeight, api.MaxTimes
	for name, p := range map[string]*api.Re{
		"a set of nothing":                  setOf(),
		"a set with an empty list":          {Kind: api.RSet, Set: set{}, Kids: []*api.Re{}},
		"one point":                         a,
		"the first point":                   one(0),
		"the last point":                    one(api.MaxPoint),
		"half of a pair":                    one(0xD800),
		"all points":                        span(0, api.MaxPoint),
		"two ranges with one point between": setOf(api.Range{Lo: 0, Hi: 4}, api.Range{Lo: 6, Hi: 9}),
		"an empty row":                      cat(),
		"an empty row with empty lists":     {Kind: api.RCat, Set: set{}, Kids: []*api.Re{}},
		"a row of two":                      cat(a, a),
		"an or of two":                      or(a, a),
		"an and of two":                     and(a, a),
		"a not":                             not(a),
		"any number":                        rep(a, 0, -1),
		"once at least":                     rep(a, 1, -1),
		"MaxTimes at least":                 rep(a, most, -1),
		"MaxTimes":                          rep(a, most, most),
		"0 to MaxTimes":                     rep(a, 0, most),
		"0 to 1":                            rep(a, 0, 1),
		"1 to 1":                            rep(a, 1, 1),
		"a row of MaxWeight":                cat(times(a, weight-1)...),
		"an or of MaxWeight":                or(times(a, weight-1)...),
		"an and of MaxWeight":               and(times(a, weight-1)...),
		"a not of MaxWeight":                not(cat(times(a, weight-2)...)),
		"times by Min of MaxWeight":         cat(rep(a, 29, -1), rep(a, 28, -1)),
		"times by Max of MaxWeight":         cat(rep(a, 0, 29), rep(a, 1, 28)),
		"times without end of MaxWeight":    rep(cat(times(a, weight-2)...), 0, -1),
		"times in times of MaxWeight":       cat(rep(rep(a, 6, 6), 8, 8), a, a),
		"MaxNest":                           nots(a, api.MaxNest),
		"MaxNest, by all kinds":             or(a, cat(a, rep(nots(and(a, a), api.MaxNest-4), 0, -1))),
	} {
		if !pattern.Ok(p) {
			t.Errorf("%s: not valid", name)
		}
	}
}

// P20: the same with one thing wrong.
func TestOkOfWhatIsNot(t *testing.T) {
	for name, p := range odd() {
		if pattern.Ok(p) {
			t.Errorf("%s: valid", name)
		}
	}
}

// P20: weights just above MaxWeight, where each part of the rule counts.
func TestOkOfWeightsJustAbove(t *testing.T) {
	a := one('a')
	for name, p := range map[string]*api.Re{
		"a row":                         cat(times(a, api.MaxWeight)...),
		"a not":                         not(cat(times(a, api.MaxWeight-1)...)),
		"times by Min":                  cat(rep(a, 29, -1), rep(a, 29, -1)),
		"times by Max":                  cat(rep(a, 0, 29), rep(a, 1, 29)),
		"times without end, counts one": rep(cat(times(a, api.MaxWeight-1)...), 0, -1),
		"times in times":                cat(rep(rep(a, 6, 6), 8, 8), a, a, a),
		"empty rows weigh too":          or(times(cat(), api.MaxWeight)...),
		"empty sets weigh too":          or(times(setOf(), api.MaxWeight)...),
	} {
		if pattern.Ok(p) {
			t.Errorf("%s: valid", name)
		}
	}
}

// P4: Ok, Write and Matches leave a pattern as it was, also behind the ends of its lists.
func TestPatternsStayAsTheyWere(t *testing.T) {
	given := validOnes(200)
	for name, p := range odd() {
		if p != nil && name != "a kid in many places" {
			given = append(given, p)
		}
	}
	for _, p := range given {
		p.Set = append(p.Set, api.Range{Lo: 7, Hi: 7})[:len(p.Set)]
		p.Kids = append(p.Kids, nil)[:len(p.Kids)]
		kept := copyOf(p)
		pattern.Ok(p)
		text, _ := pattern.Write(p)
		pattern.Matches(p, "abc")
		if !same(p, kept) || p.Set[:len(p.Set)+1][len(p.Set)] != (api.Range{Lo: 7, Hi: 7}) || p.Kids[:len(p.Kids)+1][len(p.Kids)] != nil {
			t.Errorf("%q has changed", text)
		}
	}
}
