package grammar_test

import (
	"slices"
	"testing"

	"grammarsmith/api"
	"grammarsmith/grammar"
)

// none is what stands in a test for a name without sentences.
const none = "-"

// P53: the first of the shortest sentences, and its length.
func TestShortest(t *testing.T) {
	for text, want := range map[string][]string{
		"S : a S b |":                         {""},
		"S : a S b | c":                       {"c"},
		"S":                                   {none},
		"S : S":                               {none},
		"S : a S":                             {none},
		"S : b | a":                           {"a"},
		"S : a | b":                           {"a"},
		"S : b | a a":                         {"b"},
		"S : a a a | b a | a c | b b":         {"ac"},
		"S : A b | B a; A : c | b; B : b | d": {"ba", "b", "b"},
		"S : A B; A : b a | a b; B : c | b":   {"abb", "ab", "b"},
		"S : A | c; A : B | d; B : S | b":     {"b", "b", "b"}, // they stand within one another
		"S : A | b; A : B | c; B : S | d":     {"b", "b", "b"},
		"S : d | A; A : c | B; B : b | C; C : a|S": {"a", "a", "a", "a"},
		"S : A S A | s; A : | a":                   {"s", ""},
		"S : T | a b c; T : T; U : U u | u":        {"abc", none, "u"},
		"S : S S | b | a":                          {"a"},
		"S : A A A; A : S |":                       {"", ""},
		"S : b A | A c; A : a S | d":               {"bd", "d"},
		"S : A B C; A : ; B : b | a ; C : A A":     {"a", "", "a", ""},
		"S : a A; A : a A | b S; B : a":            {none, none, "a"},
	} {
		g := of(t, text)
		short := grammar.Short(g)
		if len(short) != len(want) {
			t.Errorf("Short of %q: %v", text, short)
			continue
		}
		for n, w := range want {
			length := len(w)
			if w == none {
				w, length = "", -1
			}
			if short[n] != length {
				t.Errorf("Short of %q, name %d: %d, want %d", text, n, short[n], length)
			}
			if got, found := grammar.Shortest(g, n); !slices.Equal(got, terms(w, 0)) || found != (length >= 0) {
				t.Errorf("Shortest of %q, name %d: %v, %v, want %q", text, n, got, found, w)
			}
		}
	}
}

// P53: the order is that of the numbers, also of great ones.
func TestShortestOfGreatNumbers(t *testing.T) {
	for _, c := range []struct{ a, b []int }{
		{[]int{1}, []int{256}}, {[]int{255}, []int{256}}, {[]int{127}, []int{128}}, {[]int{0}, []int{299}}, {[]int{298}, []int{299}},
		{[]int{257, 0}, []int{258, 0}}, {[]int{2, 256}, []int{256, 2}}, {[]int{256, 1}, []int{256, 256}}, {[]int{299}, []int{0, 0}},
	} {
		for _, l := range [][][]int{{c.a, c.b}, {c.b, c.a}} {
			g := api.Grammar{Terms: api.MaxSyms, Names: 1, Prods: []api.Prod{{Right: l[0]}, {Right: l[1]}}}
			if got, found := grammar.Shortest(g, 0); !slices.Equal(got, c.a) || !found {
				t.Errorf("%v: %v, %v", l, got, found)
			}
		}
	}
}

// P53: a name that there is not.
func TestShortestOfNoName(t *testing.T) {
	g := of(t, "S : a T; T : b")
	for _, n := range []int{-1, 2, 3, api.MaxSyms, 1 << 62, -1 << 63} {
		if got, found := grammar.Shortest(g, n); len(got) != 0 || found {
			t.Errorf("%d: %v, %v", n, got, found)
		}
	}
}

// tens has as name n 10^n times the terminal 0.
func tens(names int) api.Grammar {
	g := api.Grammar{Terms: 2, Names: names, Prods: []api.Prod{{Left: 0, Right: []int{0}}}}
	for n := 1; n < names; n++ {
		g.Prods = append(g.Prods, api.Prod{Left: n, Right: row(-n, 10)})
	}
	return g
}

// more adds a name with a production.
func more(g *api.Grammar, right ...int) int {
	g.Names++
	g.Prods = append(g.Prods, api.Prod{Left: g.Names - 1, Right: right})
	return g.Names - 1
}

// P53: at most 1,000 terminals are told.
func TestShortestBound(t *testing.T) {
	g := tens(4)
	over := more(&g, -4, 1)
	under := more(&g, slices.Concat(row(-3, 9), row(-2, 9), []int{-1, 1})...)
	just := more(&g, append(row(-1, 8), -1-under)...)
	above := more(&g, append(row(-1, 8), -1-under, 1)...)
	for _, c := range []struct {
		name, length int
		told         bool
	}{{3, 1000, true}, {over, 1001, false}, {under, 992, true}, {just, 1000, true}, {above, 1001, false}} {
		got, found := grammar.Shortest(g, c.name)
		if short := grammar.Short(g)[c.name]; short != c.length || found != c.told || len(got) != 0 && len(got) != c.length || (len(got) == c.length) != c.told {
			t.Errorf("name %d: %d terminals, %v; Short %d; want %d, %v", c.name, len(got), found, short, c.length, c.told)
		}
	}
	// A long one must not hide a short one, nor one that there is not a long one.
	hidden := more(&g, -1-over)
	g.Prods = append(g.Prods, api.Prod{Left: hidden, Right: []int{1, -4}}, api.Prod{Left: hidden, Right: []int{-4}})
	if got, found := grammar.Shortest(g, hidden); !found || !slices.Equal(got, row(0, 1000)) {
		t.Errorf("%d terminals, %v", len(got), found)
	}
	never := more(&g, -1-g.Names)
	both := more(&g, -1-over, -1-never)
	if got := grammar.Short(g)[both]; got != -1 {
		t.Errorf("Short of a long one beside none: %d", got)
	}
	if got, found := grammar.Shortest(g, both); len(got) != 0 || found {
		t.Errorf("Shortest of a long one beside none: %v, %v", got, found)
	}
}

// P53: of 1,000 terminals the first in order, too.
func TestShortestOfManyInOrder(t *testing.T) {
	g := tens(3)
	end := more(&g, append(row(0, 8), 1, 0)...)
	g.Prods = append(g.Prods, api.Prod{Left: end, Right: append(row(0, 9), 1)})
	all := more(&g, slices.Concat(row(-3, 9), row(-2, 9), row(-1-end, 1))...)
	if got, found := grammar.Shortest(g, all); !found || !slices.Equal(got, append(row(0, 999), 1)) {
		t.Errorf("%d terminals, %v: ends with %v", len(got), found, got[max(0, len(got)-3):])
	}
}

// P53: lengths above 1,000,000 are told as that.
func TestShortBound(t *testing.T) {
	g := tens(api.MaxSyms - 20)
	nines := more(&g, row(0, 9)...)
	for n := 1; n < 6; n++ {
		nines = more(&g, append(row(-1-n, 9), -1-nines)...)
	}
	one := more(&g, -1-nines, 0)
	two := more(&g, -1-nines, 0, 1)
	choice := more(&g, -1-two)
	g.Prods = append(g.Prods, api.Prod{Left: choice, Right: []int{-1 - nines}})
	great := more(&g, row(-api.MaxSyms+20, 20)...)
	short := grammar.Short(g)
	for n, want := range map[int]int{0: 1, 5: 100_000, 6: 1_000_000, 7: 1_000_000, 200: 1_000_000, api.MaxSyms - 21: 1_000_000, nines: 999_999, one: 1_000_000, two: 1_000_000, choice: 999_999, great: 1_000_000} {
		if short[n] != want {
			t.Errorf("name %d: %d, want %d", n, short[n], want)
		}
		if got, found := grammar.Shortest(g, n); n > 0 && (len(got) != 0 || found) {
			t.Errorf("name %d: %d terminals, %v", n, len(got), found)
		}
	}
}
