package tongue

import (
	"strings"

	"grammarsmith/action"
	"grammarsmith/api"
	"grammarsmith/pattern"
)

// writer puts a text together, as long as it may become.
type writer struct {
	strings.Builder
	tooLong bool
}

// put writes texts, one behind the other. Behind what is too long nothing is written.
func (w *writer) put(parts ...string) {
	for _, p := range parts {
		w.tooLong = w.tooLong || w.Len()+len(p) > api.MaxText
		if w.tooLong {
			return
		}
		w.WriteString(p)
	}
}

// putWritten writes the text of something valid; an error says that it is too long even alone.
func (w *writer) putWritten(text string, err error) {
	w.tooLong = w.tooLong || err != nil
	w.put(text)
}

// each goes through a list until all is too long: what stands in many places may take long to write, each time.
func each[T any](w *writer, l []T, put func(i int, x T)) {
	for i, x := range l {
		if w.tooLong {
			return
		}
		put(i, x)
	}
}

func (w *writer) spec(x api.Spec) {
	w.put("grammar ", x.Name, "\n")
	each(w, x.Pieces, func(i int, p api.Piece) {
		if i == 0 || p.Mode != x.Pieces[i-1].Mode {
			w.mode(p.Mode)
		}
		w.piece(p)
	})
	each(w, x.Ranks, func(i int, r api.Rank) {
		if i == 0 {
			w.put("levels\n")
		}
		w.rank(r)
	})
	each(w, x.Sorts, func(i int, s api.Sort) {
		if i == 0 {
			w.put("rules\n")
		}
		w.sort(s)
	})
}

// mode begins the pieces of a mode.
func (w *writer) mode(mode string) {
	w.put("tokens")
	if mode != "" {
		w.put(" : ", mode)
	}
	w.put("\n")
}

func (w *writer) piece(p api.Piece) {
	w.put("  ", p.Name, " = ", fence)
	w.putWritten(pattern.Write(p.Pattern))
	w.put(fence)
	if p.Skip {
		w.put(" skip")
	}
	if p.Pop {
		w.put(" pop")
	}
	if p.Push != noPush {
		w.put(" push ", p.Push)
	}
	w.put(";\n")
}

func (w *writer) rank(r api.Rank) {
	w.put("  ", sideOf(r.Side))
	each(w, r.Names, func(_ int, name string) { w.put(" ", name) })
	w.put(";\n")
}

func (w *writer) sort(s api.Sort) {
	w.put("  ", s.Name, " : ", typeText(s.Type))
	each(w, s.Cases, func(i int, c api.Case) {
		if i == 0 {
			w.put("\n    =")
		} else {
			w.put("\n    |")
		}
		w.oneCase(c)
	})
	w.put(";\n")
}

// typeText gives the text of a type; of one that is too long only so much that this is seen.
func typeText(t api.Type) string {
	count, kind, _ := action.Lists(t)
	return strings.Repeat("list ", min(count, api.MaxText)) + kindOf(kind)
}

func (w *writer) oneCase(c api.Case) {
	each(w, c.Symbols, func(_ int, name string) { w.put(" ", name) })
	if c.Level != "" {
		w.put(" % ", c.Level)
	}
	w.put(" { ")
	w.putWritten(action.Write(c.Action))
	w.put(" }")
}
