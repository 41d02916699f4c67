package forest

import (
	"grammarsmith/grammar"
	"grammarsmith/marks"
)

// asker finds at which places trees of names may begin in a sentence that begins with the terminals.
type asker struct {
	*chart
	used    []bool     // by productions: those that are not stand in no tree, so that what begins with one can never be brought to an end
	asked   []places   // by names
	waiting []question // those that are not yet answered
	next    marks.Set  // the terminals that may stand behind the last place
}

// question: what stands in trees of a name that begin at these places?
type question struct {
	name int
	at   places
}

// nextOnes gives the terminals with which sentences go on behind those of a chart, and the end, if they are one.
func nextOnes(c *chart) marks.Set {
	a := &asker{chart: c, used: grammar.Used(c.grammar), asked: make([]places, c.grammar.Names)}
	a.ask(c.grammar.Start, placeOf(0))
	for len(a.waiting) > 0 {
		last := len(a.waiting) - 1
		q := a.waiting[last]
		a.waiting = a.waiting[:last]
		a.answer(q)
	}
	if c.isSentence() {
		return a.next.With(c.grammar.Terms)
	}
	return a.next
}

func (a *asker) ask(name int, at places) {
	at &^= a.asked[name]
	if at != 0 {
		a.asked[name] |= at
		a.waiting = append(a.waiting, question{name, at})
	}
}

func (a *asker) answer(q question) {
	for _, prod := range a.own[q.name] {
		if a.used[prod] {
			a.follow(a.right(prod), q.at)
		}
	}
}

// follow goes through a row of symbols, as far as the terminals lead.
func (a *asker) follow(row []int, at places) {
	for _, s := range row {
		if at == 0 {
			return
		}
		if n, named := nameOf(s); named {
			a.ask(n, at)
		} else if at.has(a.length) {
			a.next = a.next.With(s)
		}
		at = a.onward(s, at)
	}
}
