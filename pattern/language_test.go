package pattern_test

import (
	"testing"

	"grammarsmith/api"
	"grammarsmith/pattern"
)

// language is what the grammar of P21 says of texts with at most so many signs: the whole ones, and the beginnings of whole ones of any length.
type language struct {
	whole, begun texts
}

// texts are texts, by their lengths.
type texts []map[string]bool

func (l texts) add(s string) {
	if len(s) < len(l) {
		l[len(s)][s] = true
	}
}

func (l texts) count() int {
	n := 0
	for _, m := range l {
		n += len(m)
	}
	return n
}

func (l texts) addAll(other texts) {
	for n, m := range other {
		for s := range m {
			l[n][s] = true
		}
	}
}

func (l texts) addRow(a, b texts) {
	for n, m := range a {
		for s := range m {
			for _, k := range b[:len(l)-n] {
				for u := range k {
					l.add(s + u)
				}
			}
		}
	}
}

// maker makes languages of texts with at most so many signs.
type maker int

func (m maker) texts(l ...string) texts {
	out := make(texts, m+1)
	for i := range out {
		out[i] = map[string]bool{}
	}
	for _, s := range l {
		out.add(s)
	}
	return out
}

func (m maker) nothing() language { return language{m.texts(""), m.texts("")} }

func (m maker) sign(s string) language { return language{m.texts(s), m.texts("", s)} }

func (m maker) signs(l ...string) language {
	return language{m.texts(l...), m.texts(append(l, "")...)}
}

func (m maker) or(l ...language) language {
	out := language{m.texts(), m.texts()}
	for _, a := range l {
		out.whole.addAll(a.whole)
		out.begun.addAll(a.begun)
	}
	return out
}

func (m maker) row(l ...language) language {
	out := m.nothing()
	for _, a := range l {
		next := language{m.texts(), m.texts()}
		next.whole.addRow(out.whole, a.whole)
		next.begun.addRow(out.whole, a.begun)
		next.begun.addAll(out.begun)
		out = next
	}
	return out
}

func (m maker) many(a language) language {
	out := m.nothing()
	for {
		next := m.or(out, m.row(out, a))
		if next.whole.count() == out.whole.count() && next.begun.count() == out.begun.count() {
			return out
		}
		out = next
	}
}

// patterns is the language of P21, with these signs as points outside of brackets and within.
func (m maker) patterns(outer, inner []string) language {
	item := m.row(m.signs(inner...), m.or(m.nothing(), m.row(m.sign("-"), m.signs(inner...))))
	class := m.row(m.sign("["), m.signs("", "^"), m.many(item), m.sign("]"))
	count := m.signs("2", "22")
	counted := m.row(m.sign("{"), count, m.or(m.nothing(), m.row(m.sign(","), m.or(m.nothing(), count))), m.sign("}"))
	unit, all := language{m.texts(), m.texts("")}, language{m.texts(), m.texts("")}
	for {
		unit = m.or(m.row(m.sign("~"), unit), m.row(m.sign("("), all, m.sign(")")), class, m.sign("."), m.signs(outer...))
		row := m.many(m.row(unit, m.many(m.or(m.signs("*", "+", "?"), counted))))
		both := m.row(row, m.many(m.row(m.sign("&"), row)))
		next := m.row(both, m.many(m.row(m.sign("|"), both)))
		if next.whole.count() == all.whole.count() && next.begun.count() == all.begun.count() {
			return all
		}
		all = next
	}
}

// checkLanguage holds Read against the language for all texts of some signs: a text that is none is wrong behind its longest beginning.
func checkLanguage(t *testing.T, most int, signs string, outer, inner []string) {
	t.Helper()
	l := maker(most).patterns(outer, inner)
	met := 0
	eachText(signs, most, func(s string) {
		if l.whole[len(s)][s] {
			met++
			if p, err := pattern.Read(s); err != nil || !pattern.Ok(p) {
				t.Errorf("Read(%q): %v", s, err)
			}
			return
		}
		at := len(s)
		for !l.begun[at][s[:at]] {
			at--
		}
		checkWrong(t, s, api.ErrSyntax, at)
	})
	if met < 100 {
		t.Errorf("only %d texts are met", met)
	}
}

func eachText(signs string, most int, take func(s string)) {
	level := []string{""}
	for range most + 1 {
		var next []string
		for _, s := range level {
			take(s)
			for _, c := range signs {
				next = append(next, s+string(c))
			}
		}
		level = next
	}
}

// P21, P22: all short texts, by the grammar.
func TestReadByTheGrammar(t *testing.T) {
	checkLanguage(t, 3, "|&*+?{}~()[].-^,2", []string{"-", "^", ",", "2"}, []string{"|", "&", "*", "+", "?", "{", "}", "~", "(", ")", ".", ",", "2"})
	checkLanguage(t, 4, "a&|~(){},2", []string{"a", ",", "2"}, nil)
	checkLanguage(t, 5, "[]^-a", []string{"a", "-", "^"}, []string{"a"})
}
