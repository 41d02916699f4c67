package pattern

import "grammarsmith/api"

// tooHeavy is the weight of all that is not valid: so one number says both, and nothing is weighed further than it must be.
const tooHeavy = api.MaxWeight + 1

// weigh gives the weight of a pattern that lies in so many others. It stops at the first kid that makes it too heavy: kids that stand in many places would else be gone through without end.
func weigh(p *api.Re, within int) int {
	if p == nil || within > api.MaxNest || !wellMade(p) {
		return tooHeavy
	}
	kids := 0
	for _, k := range p.Kids {
		kids += weigh(k, within+1)
		if kids > api.MaxWeight {
			return tooHeavy
		}
	}
	if p.Kind == api.RRep {
		kids *= max(p.Min, p.Max, 1)
	}
	return min(1+kids, tooHeavy)
}

// wellMade says whether the fields of a pattern are as its kind asks; it does not look at the kids.
func wellMade(p *api.Re) bool {
	uncounted := p.Min == 0 && p.Max == 0
	switch p.Kind {
	case api.RSet:
		return len(p.Kids) == 0 && uncounted && canonical(p.Set)
	case api.RCat:
		return len(p.Kids) != 1 && uncounted && len(p.Set) == 0
	case api.ROr, api.RAnd:
		return len(p.Kids) >= 2 && uncounted && len(p.Set) == 0
	case api.RNot:
		return len(p.Kids) == 1 && uncounted && len(p.Set) == 0
	case api.RRep:
		return len(p.Kids) == 1 && wellCounted(p.Min, p.Max) && len(p.Set) == 0
	}
	return false
}

func wellCounted(least, most int) bool {
	if least < 0 || least > api.MaxTimes {
		return false
	}
	return most == -1 || most >= max(least, 1) && most <= api.MaxTimes
}

func canonical(set []api.Range) bool {
	least := 0
	for _, r := range set {
		if r.Lo < least || r.Lo > r.Hi || r.Hi > api.MaxPoint {
			return false
		}
		least = r.Hi + 2
	}
	return true
}
