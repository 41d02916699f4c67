package scan_test

import (
	"math"
	"slices"
	"strings"
	"testing"

	"grammarsmith/api"
	"grammarsmith/scan"
)

// pieces cuts a text from its beginning on; the last one is its end.
func pieces(x *scan.Scanner, s string) []scan.Piece {
	var out []scan.Piece
	c := x.Cutter(s)
	for at := scan.Beginning(); ; {
		var p scan.Piece
		p, at = c.Cut(at)
		out = append(out, p)
		if p.Rule == -2 {
			return out
		}
	}
}

// modesAhead gives the modes ahead of each piece of a text as lists, as Next tells them.
func modesAhead(x *scan.Scanner, s string) [][]int {
	out := [][]int{{0}}
	tok, modes := x.Next(s, 0, nil)
	for tok.Rule != -2 {
		out = append(out, modes)
		tok, modes = x.Next(s, tok.To, modes)
	}
	return out
}

// checkPieces holds the pieces of a text against Look and Scan.
func checkPieces(t *testing.T, x *scan.Scanner, l []api.Rule, s string) {
	t.Helper()
	var told []api.Token
	modes := modesAhead(x, s)
	for i, p := range pieces(x, s) {
		tok, _, look := x.Look(s, p.At, modes[i])
		if p.Token() != tok || p.Look != look {
			t.Fatalf("%.300q at %d: %+v, looked to %d, want %+v, %d", s, p.At, p.Token(), p.Look, tok, look)
		}
		if want := tok.Rule == -2 || tok.Rule >= 0 && l[tok.Rule].Skip; p.LeftOut != want {
			t.Fatalf("%.300q at %d: left out: %v, want %v", s, p.At, p.LeftOut, want)
		}
		if !p.LeftOut {
			told = append(told, tok)
		}
	}
	if got := x.Scan(s); !slices.Equal(got, told) {
		t.Fatalf("Scan(%.300q): %+v, want %+v", s, got, told)
	}
}

// P41 to P43: pieces are what Look tells, one behind the other, also where rules look far ahead in vain.
func TestPieces(t *testing.T) {
	far := plainRules(t, "a", "[abc]*z", "b(ab)*y", "(abc|b)+[xy]", "c", "[a-c]*[^a-d]{40,}", "<", " ")
	far[6].Push, far[7].Skip = 1, true
	far = append(far, inMode(1, plainRules(t, "a+b", "[^]*q", ">", "[abc]"))...)
	far[10].Pop = true
	d := &dice{seed: 9}
	all := []string{"a", "b", "c", "ab", "abc", "aaaaaaaaaaaaaaaaaaaaaaaa", "€", "\xff", " ", "z", "y", "<", ">", "q", "\n", "\xe2\x82"}
	for _, l := range [][]api.Rule{far, modeRules(t), plainRules(t, "a", "a*b", "[ac]*d"), nil} {
		x := newOf(t, l)
		for i := range 150 {
			var s strings.Builder
			some := all[:5+d.next(len(all)-4)]
			for range i * 2 {
				s.WriteString(one(d, some))
			}
			checkPieces(t, x, l, s.String())
		}
	}
}

// P43: where walks stop at what was in vain, they looked as far as those that go on: up to the end, to a point, or to a lone byte and three more.
func TestPiecesThatLookFar(t *testing.T) {
	x := plainScanner(t, "a", "a*b")
	run := strings.Repeat("a", 500)
	for behind, look := range map[string]int{"": 501, "c": 501, "€": 503, "c" + run: 501, "\xff": 502, "\xffcc": 504, "\xffcccccc": 504, "\xe2\x82cc": 504} {
		for i, p := range pieces(x, run+behind)[:500] {
			if p.At != i || p.Rule != 0 || p.Look != look {
				t.Fatalf("%q behind the run: %+v, looked to %d, want %d", behind, p.Token(), p.Look, look)
			}
		}
	}
}

// A text may be cut from any of its places on, by another cutter, and in any order.
func TestCutFromAnyPlace(t *testing.T) {
	l := modeRules(t)
	x := newOf(t, l)
	for _, s := range []string{"a<b<c<a>c>b>a", "<b!c>\na\xff€<b", ""} {
		all := pieces(x, s)
		same := x.Cutter(s)
		for i := len(all) - 1; i >= 0; i-- {
			for _, c := range []*scan.Cutter{same, x.Cutter(s)} {
				p, behind := c.Cut(all[i].Place)
				if p.Token() != all[i].Token() || p.Look != all[i].Look {
					t.Errorf("%q: %+v, want %+v", s, p, all[i])
				}
				if next := all[min(i+1, len(all)-1)]; behind.At != next.At || behind.Line != next.Line || behind.Col != next.Col || !behind.Modes.Same(next.Modes) {
					t.Errorf("%q: behind %+v is %+v, want %+v", s, p, behind, next)
				}
			}
		}
	}
}

// What a walk went over on its way to where a rule's text ended is not in vain for one that begins behind it.
func TestCutBehindWhereOneBegan(t *testing.T) {
	x := plainScanner(t, "a", "a+b", "c")
	s := strings.Repeat("a", 300) + "bca"
	c := x.Cutter(s)
	for at := range 300 {
		place := scan.Place{At: at, Line: 1, Col: at + 1}
		if p, _ := c.Cut(place); p.Rule != 1 || p.To != 301 || p.Look != 302 {
			t.Fatalf("at %d: %+v", at, p)
		}
	}
}

// Modes are the same if their lists are, however they came about.
func TestSameModes(t *testing.T) {
	l := modeRules(t)
	more := plainRules(t, "0")
	more[0].Push = 0 // within mode 0 another mode 0
	x := newOf(t, append(l, more...))
	texts := []string{"", "<", "<<", "<<<", "!", "!<", "<!", ">><", "<>", "<<><", "<<<<", "<!<<>!", "<b<c<a!c<a", "??<", "0", "00", "000<", "00>", "0<", "<<<0"}
	equal := 0
	for _, s := range texts {
		modes, all := modesAhead(x, s), pieces(x, s)
		for _, other := range texts {
			otherModes, others := modesAhead(x, other), pieces(x, other)
			for i := range all {
				for k := range others {
					want := slices.Equal(modes[i], otherModes[k])
					if got := all[i].Modes.Same(others[k].Modes); got != want {
						t.Errorf("%v and %v: %v", modes[i], otherModes[k], got)
					}
					if want {
						equal++
					}
				}
			}
		}
	}
	if equal < 100 {
		t.Errorf("only %d are the same", equal)
	}
	var none *scan.Modes
	if some := scan.Beginning().Modes; none.Same(some) || some.Same(none) || !none.Same(none) {
		t.Error("none are the same as some")
	}
}

// Modes that differ farthest out are told apart soon, also where there are many.
func TestManyModes(t *testing.T) {
	const depth = 300000
	l := append(plainRules(t, "<", "!"), inMode(1, plainRules(t, "<"))...)
	l = append(l, inMode(2, plainRules(t, "<"))...)
	l[0].Push, l[1].Push, l[2].Push, l[3].Push = 1, 2, 1, 1
	x := newOf(t, l)
	some, others, again := pieces(x, strings.Repeat("<", depth)), pieces(x, "!"+strings.Repeat("<", depth-1)), pieces(x, strings.Repeat("<", depth))
	for i := 1; i <= depth; i++ {
		if some[i].Modes.Same(others[i].Modes) {
			t.Fatalf("%d modes, of which the outermost but one is another: the same", i)
		}
	}
	if !some[depth].Modes.Same(again[depth].Modes) {
		t.Error("many modes: not the same")
	}
}

// P1: what is no place of the text is its end, and without modes that of number 0 holds.
func TestCutOfNoPlace(t *testing.T) {
	x := newOf(t, modeRules(t))
	for _, at := range []int{-1, 3, 4, math.MinInt, math.MaxInt} {
		p, behind := x.Cutter("a<b").Cut(scan.Place{At: at, Line: 7, Col: -5})
		if p.Rule != -2 || p.At != 3 || p.To != 3 || p.Look != 4 || !p.LeftOut || behind.At != 3 || !behind.Modes.Same(scan.Beginning().Modes) {
			t.Errorf("%d: %+v, %+v", at, p, behind)
		}
	}
	p, behind := x.Cutter("<b").Cut(scan.Place{})
	if p.Rule != 0 || p.To != 1 || !p.Modes.Same(scan.Beginning().Modes) || behind.Modes.Same(p.Modes) {
		t.Errorf("%+v, %+v", p, behind)
	}
}
