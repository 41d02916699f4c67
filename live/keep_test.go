package live_test

import (
	"math"
	"reflect"
	"slices"
	"strings"
	"testing"

	"grammarsmith/api"
	"grammarsmith/live"
	"grammarsmith/scan"
)

// scribble writes into all of a list, also behind its end.
func scribble[T any](l []T, v T) {
	l = l[:cap(l)]
	for i := range l {
		l[i] = v
	}
}

// scribbleValue writes into all that lies in a value.
func scribbleValue(v *api.Value) {
	for i := range v.List {
		scribbleValue(&v.List[i])
	}
	scribble(v.List, words("99"))
	*v = words("99")
}

// P4: what is answered is new: writing into it changes nothing that is answered elsewhere.
func TestAnswersAreNew(t *testing.T) {
	for source, parts := range subjects() {
		b := benchOf(t, source)
		d := &dice{seed: 41}
		l := liveOf(t, b.tool, d.text(parts, 9))
		for range 300 {
			from, to, put := d.edit(l.Text(), parts)
			mustEdit(t, l, from, to, put)
			first, again := l.Tokens(), l.Tokens()
			scribble(first, api.Token{Rule: 99})
			v, err := l.Run()
			w, otherErr := l.Run()
			if f, is := err.(*api.Fault); is {
				if f == otherErr.(*api.Fault) {
					t.Fatalf("%q: one fault is told twice", l.Text())
				}
				*f = api.Fault{Err: api.ErrName, At: 99}
			}
			scribbleValue(&v)
			want, _ := b.tool.Run(l.Text())
			if !slices.Equal(again, b.scanner.Scan(l.Text())) || !sameValue(w, want) {
				t.Fatalf("%q: other answers have changed: %+v, %+v", l.Text(), again, w)
			}
			b.check(t, l, l.Text())
		}
	}
}

// P4: faults of edits that are refused are new, too.
func TestFaultsAreNew(t *testing.T) {
	l := liveOf(t, mustNew(t, sums), "1")
	_, err := l.Edit(1, 0, "")
	*err.(*api.Fault) = api.Fault{Err: api.ErrName, At: 99}
	checkBound(t, l, 1, 0, "")
	none := live.New(nil, "")
	_, err = none.Run()
	*err.(*api.Fault) = api.Fault{Err: api.ErrName, At: 99}
	checkUnread(t, none, api.ErrEnd, 0)
}

// P4: a Live does not change its tool, and no two of one tool change one another.
func TestToolStays(t *testing.T) {
	for source, parts := range subjects() {
		b, fresh := benchOf(t, source), mustNew(t, source)
		d := &dice{seed: 42}
		var all []*live.Live
		var texts []string
		for range 5 {
			texts = append(texts, d.text(parts, 9))
			all = append(all, liveOf(t, b.tool, texts[len(texts)-1]))
		}
		for range 100 {
			i := d.next(len(all))
			from, to, put := d.edit(texts[i], parts)
			mustEdit(t, all[i], from, to, put)
			texts[i] = texts[i][:from] + put + texts[i][to:]
		}
		for i, l := range all {
			b.check(t, l, texts[i])
			v, err := b.tool.Run(texts[i])
			if w, otherErr := fresh.Run(texts[i]); !sameValue(v, w) || !sameFault(err, otherErr) {
				t.Fatalf("%q: %+v, %v, want %+v, %v", texts[i], v, err, w, otherErr)
			}
		}
		if !reflect.DeepEqual(b.tool.Rules(), fresh.Rules()) || !reflect.DeepEqual(b.tool.Grammar(), fresh.Grammar()) || !reflect.DeepEqual(b.tool.Table(), fresh.Table()) {
			t.Fatalf("%.300q: the tool has changed", source)
		}
	}
}

// P2: of two Lives with the same calls ahead all is the same.
func TestSameCalls(t *testing.T) {
	for source, parts := range subjects() {
		x, y := mustNew(t, source), mustNew(t, source)
		d := &dice{seed: 43}
		s := d.text(parts, 9)
		l, twin := liveOf(t, x, s), liveOf(t, y, s)
		for i := range 100 {
			from, to, put := d.edit(l.Text(), parts)
			w, err := l.Edit(from, to, put)
			if other, otherErr := twin.Edit(from, to, put); w != other || !sameFault(err, otherErr) {
				t.Fatalf("%+v, %v, want %+v, %v", other, otherErr, w, err)
			}
			if i%3 == 0 { // to be asked changes nothing
				l.Run()
				l.Tokens()
				l.Edit(-1, 0, put)
			}
			if l.Text() != twin.Text() || !slices.Equal(l.Tokens(), twin.Tokens()) {
				t.Fatalf("%q, want %q", twin.Text(), l.Text())
			}
		}
	}
}

// P1: whatever is given, no panic, and an answer soon.
func TestNothingPanics(t *testing.T) {
	odd := []int{0, 1, 2, 3, 7, -1, -2, 1 << 40, math.MaxInt, math.MinInt, math.MaxInt - 1, api.MaxLive, api.MaxLive + 1}
	for source, parts := range subjects() {
		x := mustNew(t, source)
		d := &dice{seed: 44}
		l := liveOf(t, x, d.text(parts, 5))
		for range 3000 {
			ahead := l.Text()
			from, to, put := pick(d, odd), pick(d, odd), d.text(parts, 2)
			w, err := l.Edit(from, to, put)
			right := 0 <= from && from <= to && to <= len(ahead)
			if right != (err == nil) || !right && (w != live.Work{} || l.Text() != ahead) {
				t.Fatalf("Edit(%d, %d, %q) of %q: %+v, %v, %q", from, to, put, ahead, w, err, l.Text())
			}
			if v, err := l.Run(); err != nil && !reflect.ValueOf(v).IsZero() {
				t.Fatalf("%q: an error, and %+v", l.Text(), v)
			}
			if len(l.Text()) > 60 {
				mustEdit(t, l, 0, 50, "")
			}
		}
	}
}

// A Live may be asked by many at once, and many Lives of one tool may be changed at once.
func TestAtOnce(t *testing.T) {
	x := mustNew(t, quotes)
	l := liveOf(t, x, `a "b {c} d" /* e */`)
	want, _ := l.Run()
	tokens := l.Tokens()
	done := make(chan bool)
	for range 8 {
		go func() {
			own := live.New(x, strings.Repeat(`a "b" `, 20))
			same := true
			for i := range 50 {
				v, err := l.Run()
				same = same && err == nil && sameValue(v, want) && slices.Equal(l.Tokens(), tokens)
				_, err = own.Edit(i, i+1, `"`)
				same = same && err == nil
				_, err = own.Run()
				_, otherErr := x.Run(own.Text())
				same = same && sameFault(err, otherErr)
			}
			done <- same
		}()
	}
	for range 8 {
		if !<-done {
			t.Error("another answer")
		}
	}
}

// count gives how many tokens a text has, those of rules with Skip too.
func (b bench) count(s string) int {
	count, cutter := 0, b.scanner.Cutter(s)
	for at := scan.Beginning(); at.At < len(s); count++ {
		_, at = cutter.Cut(at)
	}
	return count
}

// P1, and the limits: long texts, also such that each token looks up to the end, or begins a mode, or both.
func TestLongTexts(t *testing.T) {
	for _, c := range []struct{ source, unit, put string }{
		{sums, "1 + ", "2"}, {far, "a", "c"}, {far, "ac", "d"}, {sides, "(", "["}, {sides, "[(", "x"}, {quotes, "/*", "*/"}, {points, "\xe2\x82", "\xac"}, {points, "€\n", "\xff"}, {outside, "a", "b"}, {nothing, "\n", "a"},
	} {
		b := benchOf(t, c.source)
		s := strings.Repeat(c.unit, (api.MaxLive-100)/len(c.unit))
		l := liveOf(t, b.tool, s)
		b.checkCut(t, l, s)
		for _, from := range []int{0, 1, 2, len(s) / 2, len(s) - 3, len(s)} {
			for _, to := range []int{from, min(from+2, len(s))} {
				w := mustEdit(t, l, from, to, c.put)
				if all := b.count(l.Text()); w.Cut+w.Kept != all || w.Shifted > all {
					t.Errorf("%.20q: %+v, but there are %d", l.Text(), w, all)
				}
				b.checkCut(t, l, s[:from]+c.put+s[to:])
				mustEdit(t, l, from, from+len(c.put), s[from:to])
				b.checkCut(t, l, s)
			}
		}
	}
}

// P130: Run of long texts.
func TestRunOfLongTexts(t *testing.T) {
	b := benchOf(t, sums)
	l := liveOf(t, b.tool, strings.Repeat("1 + ", 4900)+"1")
	checkRun(t, l, whole(4901))
	for i := range 20 {
		mustEdit(t, l, 400*i, 400*i+1, "2")
		checkRun(t, l, whole(int64(4902+i)))
	}
	b.check(t, l, l.Text())
	mustEdit(t, l, 9000, 9003, "é")
	b.check(t, l, l.Text())
	mustEdit(t, l, 9000, 9002, "")
	b.check(t, l, l.Text())
}

// P1: what New takes has no bound.
func TestVeryLongText(t *testing.T) {
	x := mustNew(t, sums)
	s := strings.Repeat("1 + ", 100000)
	l := liveOf(t, x, s+"1")
	checkRun(t, l, whole(100001))
	mustEdit(t, l, 4, len(s), "")
	checkRun(t, l, whole(2))
	deep := mustNew(t, "grammar g tokens a = `a`; b = `b`; rules s : int = a s b { $2 + 1 } | { 0 };")
	half := strings.Repeat("a", api.MaxLive/2)
	l = liveOf(t, deep, half+strings.Repeat("b", api.MaxLive/2))
	checkRun(t, l, whole(api.MaxLive/2))
	mustEdit(t, l, 0, 1, "")
	checkUnread(t, l, api.ErrEnd, api.MaxLive-2)
	mustEdit(t, l, api.MaxLive-2, api.MaxLive-1, "")
	checkRun(t, l, whole(api.MaxLive/2-1))
}

// P131: a text is not cut and read anew but where it must be: near the end of a long one an edit makes few things.
func TestEditDoesLittle(t *testing.T) {
	x := mustNew(t, sums)
	s := strings.Repeat("1 + ", 4900) + "1"
	l := liveOf(t, x, s)
	for _, from := range []int{len(s) - 41, len(s) - 1} {
		made := testing.AllocsPerRun(3, func() {
			mustEdit(t, l, from, from+1, "2")
			mustEdit(t, l, from, from+1, "1")
		})
		if all := testing.AllocsPerRun(3, func() { live.New(x, s) }); made > 1000 || all < 20000 {
			t.Errorf("at %d: %v things are made, of the whole text %v", from, made, all)
		}
	}
}
