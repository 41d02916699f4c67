package scan

import (
	"iter"
	"unicode/utf8"

	"grammarsmith/api"
	"grammarsmith/auto"
)

// nowhere is where an automaton is when it can not go on.
const nowhere = -1

// loneMore is how many bytes behind a byte that belongs to no code point might make one of it.
const loneMore = utf8.UTFMax - 1

// mode is the rules that hold in it: its automaton takes by their places among them. Without rules it has no states.
type mode struct {
	api.Auto
	rules []int
}

// reach is how far a walk came: over the point from one byte to another, and to which state.
type reach struct {
	from, to, state int
	lone            bool // the point is a byte that belongs to no code point
}

// walk goes from a byte on point by point, up to the first one with which it is nowhere, or to the end of the text.
func (m *mode) walk(s string, at int) iter.Seq[reach] {
	return func(yield func(reach) bool) {
		for state := 0; at < len(s) && state != nowhere; {
			p, size := utf8.DecodeRuneInString(s[at:])
			state = auto.Step(m.Auto, state, int(p))
			lone := p == utf8.RuneError && size == 1
			if !yield(reach{from: at, to: at + size, state: state, lone: lone}) {
				return
			}
			at += size
		}
	}
}

// takes gives the number of the rule that stands for what a walk went over so far.
func (m *mode) takes(r reach) int {
	if r.state == nowhere || m.States[r.state].Rule < 0 {
		return noRule
	}
	return m.rules[m.States[r.state].Rule]
}

// longest gives the rule that stands for the longest part of a walk, and where that part ends; it is one point where no rule stands for any. And it gives what the walk came to last.
func (m *mode) longest(s string, at int, walk iter.Seq[reach]) (rule, to int, last reach) {
	_, size := utf8.DecodeRuneInString(s[at:])
	rule, to = noRule, at+size
	for r := range walk {
		if taken := m.takes(r); taken != noRule {
			rule, to = taken, r.to
		}
		last = r
	}
	return rule, to, last
}

// looked gives up to which byte a walk had to look that came here last.
func (r reach) looked(length int) int {
	switch {
	case r.state != nowhere:
		return length + 1
	case r.lone:
		return min(r.to+loneMore, length+1)
	}
	return r.to
}
