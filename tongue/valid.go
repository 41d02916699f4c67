package tongue

import (
	"grammarsmith/action"
	"grammarsmith/api"
	"grammarsmith/pattern"
)

// canBeSaid says whether there is a text, of whatever length, that says a Spec.
func canBeSaid(x api.Spec) bool {
	return isName(x.Name) && all(x.Pieces, isPiece) && all(x.Ranks, isRank) && all(x.Sorts, isSort)
}

func all[T any](l []T, is func(T) bool) bool {
	for _, x := range l {
		if !is(x) {
			return false
		}
	}
	return true
}

func isPiece(p api.Piece) bool {
	return isName(p.Name) && (p.Mode == "" || isName(p.Mode)) && (p.Push == noPush || isName(p.Push)) && pattern.Ok(p.Pattern)
}

func isRank(r api.Rank) bool {
	return sideOf(r.Side) != "" && len(r.Names) > 0 && all(r.Names, isName)
}

func isSort(s api.Sort) bool {
	_, kind, isType := action.Lists(s.Type)
	return isName(s.Name) && isType && kindOf(kind) != "" && len(s.Cases) > 0 && all(s.Cases, isCase)
}

func isCase(c api.Case) bool {
	return all(c.Symbols, isName) && (c.Level == "" || isName(c.Level)) && action.Ok(c.Action) && hasNames(c.Action)
}

// hasNames says of a valid expression whether the names in it are names of the tongue.
func hasNames(e *api.Expr) bool {
	if e.Kind == api.EName || e.Kind == api.ELet {
		return isName(e.Text) && all(e.Kids, hasNames)
	}
	return all(e.Kids, hasNames)
}
