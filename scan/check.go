package scan

import (
	"slices"

	"grammarsmith/api"
	"grammarsmith/auto"
)

// wrongAlone gives the first rule that is wrong whatever the other rules of its mode stand for.
func wrongAlone(l []api.Rule) *api.Fault {
	for i, r := range l {
		if err := errorOf(r, l); err != nil {
			return &api.Fault{Err: err, At: i}
		}
	}
	return nil
}

func errorOf(r api.Rule, l []api.Rule) error {
	a, err := auto.Of(r.Re)
	if err != nil {
		return err
	}
	takesEmpty := auto.Run(a, "") >= 0
	if r.Mode < 0 || r.Mode >= api.MaxModes || !mayPush(r.Push, l) || takesEmpty {
		return api.ErrRule
	}
	return nil
}

func mayPush(push int, l []api.Rule) bool {
	return push == -1 || slices.ContainsFunc(l, func(r api.Rule) bool { return r.Mode == push })
}

// fill finds the automaton of a mode whose rules are right alone, or the first of them that can not stand behind the others.
func (m *mode) fill(l []api.Rule) *api.Fault {
	var patterns []*api.Re
	for _, i := range m.rules {
		patterns = append(patterns, l[i].Re)
	}
	a, count := auto.Fit(patterns)
	if i := slices.Index(takers(a, count), 0); i >= 0 {
		return &api.Fault{Err: api.ErrRule, At: m.rules[i]}
	}
	if count < len(patterns) {
		return &api.Fault{Err: api.ErrBound, At: m.rules[count]}
	}
	m.Auto = a
	return nil
}

// takers gives for each of so many rules how many states take by it: what leads to them is the rule's own, for a state takes by the first rule that stands for what leads to it.
func takers(a api.Auto, rules int) []int {
	out := make([]int, rules)
	for _, s := range a.States {
		if s.Rule >= 0 {
			out[s.Rule]++
		}
	}
	return out
}
