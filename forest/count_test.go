package forest_test

import (
	"math/big"
	"testing"

	"grammarsmith/api"
	"grammarsmith/forest"
)

// P81: trees by hand.
func TestCount(t *testing.T) {
	for _, c := range []struct{ prods, in, want string }{
		{"SaSb S", "", "1"},
		{"SaSb S", "aabb", "1"},
		{"SaSb S", "aab", "0"},
		{"SaSb S", "abab", "0"},
		{"SSaS Sb", "b", "1"},
		{"SSaS Sb", "babab", "2"},
		{"SSaS Sb", "bababab", "5"},
		{"SSaS Sb", "babababab", "14"},
		{"SSaS Sb", "bababa", "0"},
		{"Sa Sa Sa", "a", "3"}, // productions that are the same are not one
		{"SA SB Aa Ba", "a", "2"},
		{"SAB A Aa Aaa B Ba", "a", "2"},
		{"SAB A Aa Aaa B Ba", "aa", "2"},
		{"SAA A Aa Aaa", "aa", "3"},
		{"SAAA A A Aa", "", "8"}, // nodes without leaves
		{"SAAA A A Aa", "a", "12"},
		{"SABC A A B B B C C C C C", "", "30"},
		{"SaAbAc A A", "abc", "4"}, // at several places
		{"SaSA S A A", "aaa", "8"},
		{"SAS Sa A Ab", "ba", "many"},
		{"SSSS Sa", "aaaaa", "3"},
		{"SSSS SSS Sa", "aaaa", "10"},
		{"S", "", "1"},
		{"S S", "", "2"},
	} {
		if got := forest.Count(of(t, c.prods), terms(c.in)); got != c.want {
			t.Errorf("%q of %q: %s, want %s", c.in, c.prods, got, c.want)
		}
	}
}

// P81: many, where a name stands within itself with the same leaves; a number, where such a name stands in no tree of the sentence.
func TestMany(t *testing.T) {
	for _, c := range []struct{ prods, in, want string }{
		{"SS Sa", "a", "many"}, // straight
		{"SS Sa", "aa", "0"},
		{"SS", "", "0"},
		{"SS S", "", "many"},
		{"SA AB BS Ba", "a", "many"}, // through several others
		{"SaA AB BC CA Cb", "ab", "many"},
		{"SAS Sa A", "a", "many"}, // beside names that have the empty sentence
		{"SSA Sa A", "a", "many"},
		{"SASB Sa A B", "a", "many"},
		{"SASB Sa A Bb", "ab", "1"}, // b must be there
		{"SASB Sa A Bb", "a", "1"},
		{"SASB Sa A Bb", "abb", "1"},
		{"SBAC AaS Aa B C CS", "a", "1"},
		{"SBAC Aa AS B C CS", "a", "many"},
		{"SBAC AaS Aa B Cb", "aab", "0"},
		{"SSS Sa S", "", "many"}, // nodes without leaves
		{"SSS Sa S", "a", "many"},
		{"SaAb A AA", "ab", "many"},
		{"SaAb A AB BCC C CA", "ab", "many"},
		{"Sa SbA AA Ac", "a", "1"}, // A stands in no tree of a
		{"Sa SbA AA Ac", "bc", "many"},
		{"SaA SaB AA Ab Bc", "ac", "1"},
		{"SaA SaB AA Ab Bc", "ab", "many"},
		{"SaAb AaAb Ac ABA BC B Cd", "acb", "many"},
		{"SaA Ab ABc BA", "ab", "1"}, // B has other leaves than A
		{"SaA Ab ABc BA", "abc", "1"},
		{"SAa SaB A AA Bb", "ab", "1"}, // the other production
		{"SAa SaB A AA Bb", "a", "many"},
		{"SAB Aa AaC B Bb CC", "ab", "1"}, // it would have no end, but has no tree
		{"Sa AA Aa", "a", "1"},            // Start never comes to it
		{"SAA A Aa AAb", "ab", "3"},       // A stands within A with fewer leaves
		{"SaS SSb S", "ab", "2"},
		{"SaS SSb S", "aabb", "6"},
	} {
		if got := forest.Count(of(t, c.prods), terms(c.in)); got != c.want {
			t.Errorf("%q of %q: %s, want %s", c.in, c.prods, got, c.want)
		}
	}
}

// ring is names that stand within one another, with one way out of the last one.
func ring(names int) api.Grammar {
	g := api.Grammar{Terms: 2, Names: names}
	for n := range names {
		g.Prods = append(g.Prods, api.Prod{Left: n, Right: []int{-1 - (n+1)%names}})
	}
	g.Prods = append(g.Prods, api.Prod{Left: names - 1, Right: []int{0}})
	return g
}

// P81: a ring of as many names as may be; a number as soon as it is broken.
func TestLongRing(t *testing.T) {
	if got := forest.Count(ring(api.MaxSyms), []int{0}); got != "many" {
		t.Errorf("the ring: %s", got)
	}
	g := ring(api.MaxSyms)
	g.Prods[api.MaxSyms-1].Right = []int{-1, 1}
	for ends := range 5 {
		if got := forest.Count(g, append([]int{0}, row(1, ends)...)); got != "1" {
			t.Errorf("broken, gone round %d times: %s", ends, got)
		}
	}
	g.Prods[api.MaxSyms-1].Right = []int{-2} // round, but past Start
	if got := forest.Count(g, []int{0}); got != "many" {
		t.Errorf("past Start: %s", got)
	}
}

// catalan is how many trees with two kids each have so many leaves.
func catalan(leaves int) *big.Int {
	n := int64(leaves - 1)
	out := new(big.Int).Binomial(2*n, n)
	return out.Div(out, big.NewInt(n+1))
}

// P81: numbers that do not fit into 64 bits.
func TestLargeCounts(t *testing.T) {
	binary := of(t, "SSS Sa")
	marked := of(t, "SSaS Sb")
	for n := 1; n <= api.MaxWords; n++ {
		want := catalan(n).String()
		if got := forest.Count(binary, row(0, n)); got != want {
			t.Errorf("%d leaves: %s, want %s", n, got, want)
		}
		if words := 2*n - 1; words <= api.MaxWords {
			in := row(1, words)
			for i := 1; i < words; i += 2 {
				in[i] = 0
			}
			if got := forest.Count(marked, in); got != want {
				t.Errorf("%d leaves and what stands between: %s, want %s", n, got, want)
			}
		}
	}
	both := api.Grammar{Terms: 1, Names: 1}
	for i := range api.MaxProds {
		both.Prods = append(both.Prods, api.Prod{Right: row(-1, 2)})
		if i%2 == 1 {
			both.Prods[i].Right = []int{0}
		}
	}
	want := new(big.Int).Exp(big.NewInt(api.MaxProds/2), big.NewInt(2*api.MaxWords-1), nil)
	want.Mul(want, catalan(api.MaxWords))
	if got := forest.Count(both, row(0, api.MaxWords)); got != want.String() {
		t.Errorf("as many productions as may be: %s, want %s", got, want)
	}
}

// fanned is a grammar of names each of which becomes so many times the next one; the last one has so many trees. All are without leaves.
func fanned(names, wide, last int) api.Grammar {
	g := api.Grammar{Names: names}
	for n := range names - 1 {
		g.Prods = append(g.Prods, api.Prod{Left: n, Right: row(-2-n, wide)})
	}
	for range last {
		g.Prods = append(g.Prods, api.Prod{Left: names - 1})
	}
	return g
}

// P81: numbers as large as they become.
func TestHugeCounts(t *testing.T) {
	for _, c := range []struct{ names, wide, last int }{
		{1, 20, 1}, {1, 20, 7}, {2, 20, 2}, {2, 19, 10}, {2, 20, 10}, {3, 20, 1}, {3, 20, 2}, {3, 18, 10}, {4, 9, 10}, {4, 20, 3}, {5, 20, 2}, {4, 20, 300}, {api.MaxSyms, 20, 1}, {api.MaxSyms, 1, 9},
	} {
		power := new(big.Int).Exp(big.NewInt(int64(c.wide)), big.NewInt(int64(c.names-1)), nil)
		want := big.NewInt(1)
		if c.last > 1 {
			want.Exp(big.NewInt(int64(c.last)), power, nil)
		}
		if got := forest.Count(fanned(c.names, c.wide, c.last), nil); got != want.String() {
			t.Errorf("%+v: %d digits, %.40s.., want %d, %.40s..", c, len(got), got, len(want.String()), want)
		}
	}
	// The same numbers at many places of a sentence.
	g := fanned(3, 20, 2)
	g.Terms = 1
	for i := range g.Prods {
		g.Prods[i].Left++
		for k := range g.Prods[i].Right {
			g.Prods[i].Right[k]--
		}
	}
	g.Names++
	g.Prods = append(g.Prods, api.Prod{Right: []int{-2, 0, -1}}, api.Prod{})
	want := new(big.Int).Lsh(big.NewInt(1), 400*api.MaxWords)
	if got := forest.Count(g, row(0, api.MaxWords)); got != want.String() {
		t.Errorf("at many places: %d digits, want %d", len(got), len(want.String()))
	}
}

// P1: of a number of more digits than there is memory for nothing is promised, but the call ends.
func TestCountPastTelling(t *testing.T) {
	for _, c := range []struct{ names, wide, last int }{{9, 20, 2}, {40, 2, 3}, {api.MaxSyms, 20, 2}, {api.MaxSyms, 2, 100}} {
		if got := forest.Count(fanned(c.names, c.wide, c.last), nil); got != "many" {
			t.Errorf("%+v: %d digits", c, len(got))
		}
	}
}

// P81: of many grammars what the model says.
func TestCountByModel(t *testing.T) {
	d, seen := &dice{seed: 81}, map[string]int{}
	for range 6000 {
		g := d.grammar()
		in := d.list(g, 5)
		left, endless := modelCount(g, in)
		got := forest.Count(g, in)
		n, is := leftBy(got)
		if endless && got != "many" || !endless && (!is || n != left) {
			t.Fatalf("%v of %+v: %s, want %d, endless %v", in, g, got, left, endless)
		}
		if has := forest.Has(g, in); has != (left > 0) {
			t.Fatalf("Has %v of %+v: %v, but there are %s", in, g, has, got)
		}
		switch {
		case endless, got == "0", got == "1":
			seen[got]++
		default:
			seen["several"]++
		}
	}
	for what, n := range map[string]int{"0": 1000, "1": 200, "several": 200, "many": 400} {
		if seen[what] < n {
			t.Errorf("%s: only %d", what, seen[what])
		}
	}
}
