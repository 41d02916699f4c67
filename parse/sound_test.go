package parse_test

import (
	"math"
	"slices"
	"testing"

	"grammarsmith/api"
	"grammarsmith/parse"
)

// P73: trees by hand.
func TestSound(t *testing.T) {
	nested, list := []string{"SaSb", "S"}, []string{"SAS", "S", "Aa", "Ab", "ASS"}
	for _, c := range []struct {
		prods []string
		tree  string
		in    string
		want  bool
	}{
		{nested, "(1)", "", true},
		{nested, "(0 0 (1) 1)", "ab", true},
		{nested, "(0 0 (0 1 (1) 2) 3)", "aabb", true},
		{list, "(0 (2 0) (0 (3 1) (1)))", "ab", true},
		{list, "(0 (4 (1) (1)) (1))", "", true}, // one of many trees of nothing
		{list, "(0 (4 (0 (2 0) (1)) (1)) (1))", "a", true},
		{nested, "()", "", false}, // nil
		{nested, "0", "a", false}, // a leaf alone
		{nested, "0", "", false},
		{nested, "(0 0 (1) 1)", "", false}, // leaves that are left over
		{nested, "(0 0 (1) 1)", "a", false},
		{nested, "(1)", "a", false}, // leaves that are missing
		{nested, "(0 0 (1) 1)", "aba", false},
		{nested, "(0 0 (1) 1)", "abab", false},
		{nested, "(0 0 (1) 1)", "ba", false}, // other terminals
		{nested, "(0 0 (1) 1)", "aa", false},
		{nested, "(0 0 (1) 1)", "a!", false},
		{nested, "(0 0 (1) 1)", "ac", false},
		{nested, "(0 1 (1) 0)", "ab", false}, // leaves in another order
		{nested, "(0 1 (1) 0)", "ba", false},
		{nested, "(0 0 (1) 0)", "ab", false}, // Tokens that are not their numbers
		{nested, "(0 1 (1) 1)", "ab", false},
		{nested, "(0 1 (1) 2)", "ab", false},
		{nested, "(0 -1 (1) 0)", "ab", false},
		{nested, "(0 0 (1) 2)", "abb", false},
		{nested, "(0)", "", false}, // too few kids
		{nested, "(0 0 1)", "ab", false},
		{nested, "(0 0 (1))", "a", false},
		{nested, "(0 0 (1) 1 2)", "abb", false}, // too many
		{nested, "(0 0 (1) 1 (1))", "ab", false},
		{nested, "(1 0)", "a", false},
		{nested, "(1 (1))", "", false},
		{nested, "(1 ())", "", false},
		{nested, "(0 0 () 1)", "ab", false}, // a nil among them
		{nested, "(0 () (1) 0)", "b", false},
		{nested, "(0 0 (1) ())", "a", false},
		{nested, "(2)", "", false}, // a Prod that is none
		{nested, "(0 0 (2) 1)", "ab", false},
		{nested, "(0 0 1 2)", "aab", false}, // a leaf for a name
		{nested, "(0 (1) (1) 0)", "b", false},
		{nested, "(0 (0 0 (1) 1) (1) 2)", "abb", false}, // a node for a terminal
		{list, "(2 0)", "a", false},                     // a node of another name than Start
		{list, "(0 (1) (1))", "", false},                // a kid of another name
		{list, "(0 (2 0) (3 1))", "ab", false},
		{list, "(0 (2 0) (1))", "b", false}, // another production of the name
	} {
		g := of(t, c.prods...)
		if got := parse.Sound(g, tree(t, c.tree), terms(c.in)); got != c.want {
			t.Errorf("%s with %q of %q: %v", c.tree, c.in, c.prods, got)
		}
	}
}

// spoilt gives a tree's like with one thing in one of its trees not as it was.
func spoilt(r *api.Tree, visit func(what string, bad *api.Tree)) {
	for i := range all(r) {
		one := func(what string, change func(*api.Tree)) {
			bad := copied(r)
			change(all(bad)[i])
			visit(what, bad)
		}
		for _, n := range []int{-1, 1, 2, 100, math.MaxInt, math.MinInt} {
			one("Token", func(k *api.Tree) { k.Token += n })
			one("Prod", func(k *api.Tree) { k.Prod += n })
		}
		one("a kid more", func(k *api.Tree) { k.Kids = append(k.Kids, &api.Tree{Prod: -1}) })
		one("an empty kid more", func(k *api.Tree) { k.Kids = append(k.Kids, &api.Tree{Prod: 1}) })
		one("a nil more", func(k *api.Tree) { k.Kids = append(k.Kids, nil) })
		for j := range all(r)[i].Kids {
			one("a kid less", func(k *api.Tree) { k.Kids = slices.Delete(k.Kids, j, j+1) })
			one("a nil", func(k *api.Tree) { k.Kids[j] = nil })
			one("a kid twice", func(k *api.Tree) { k.Kids = slices.Insert(k.Kids, j, k.Kids[j]) })
			one("itself for a kid", func(k *api.Tree) { k.Kids[j] = copied(k) })
			one("other order", func(k *api.Tree) { k.Kids[0], k.Kids[j] = k.Kids[j], k.Kids[0] })
		}
	}
}

// P73: where each sentence has one tree, no other tree is sound.
func TestOneTreeIsSound(t *testing.T) {
	g := of(t, "SaSb", "S")
	x := made(t, makers[0], g)
	for _, letters := range []string{"", "ab", "aabb", "aaabbb"} {
		in := terms(letters)
		r, err := parse.Parse(g, x, in)
		if err != nil || !parse.Sound(g, r, in) {
			t.Fatalf("%q: %v", letters, err)
		}
		want, count := parse.Show(r), 0
		spoilt(r, func(what string, bad *api.Tree) {
			same := parse.Show(bad) == want && modelSound(g, bad, in) // the first kid in the place of the first
			if parse.Sound(g, bad, in) != same {
				t.Errorf("%q: %s: %s", letters, what, parse.Show(bad))
			}
			if !same {
				count++
			}
		})
		if count < 10 {
			t.Errorf("%q: only %d", letters, count)
		}
	}
}

// P73: trees of small grammars, whole and spoilt, held against the model.
func TestSoundByModel(t *testing.T) {
	d := &dice{seed: 74}
	seen := map[bool]int{}
	for range 400 {
		g, x := d.read()
		in := d.list(g, 5)
		r, err := parse.Parse(g, x, in)
		if err != nil || len(all(r)) > 30 {
			continue
		}
		spoilt(r, func(what string, bad *api.Tree) {
			got, want := parse.Sound(g, bad, in), modelSound(g, bad, in)
			if got != want {
				t.Fatalf("%s: %s with %v of %+v: %v", what, parse.Show(bad), in, g, got)
			}
			seen[want]++
		})
		for range 5 {
			other := d.list(g, 5)
			if got := parse.Sound(g, r, other); got != slices.Equal(in, other) {
				t.Fatalf("%s with %v of %+v: %v", parse.Show(r), other, g, got)
			}
		}
	}
	if seen[true] < 100 || seen[false] < 5000 {
		t.Errorf("seen: %v", seen)
	}
}

// P73: a leaf has no kids, a node's Token is 0, and no Prod is below -1.
func TestSoundFields(t *testing.T) {
	g := of(t, "Sa", "SA", "A")
	for name, c := range map[string]struct {
		tree *api.Tree
		want bool
	}{
		"as it should be": {&api.Tree{Prod: 0, Kids: []*api.Tree{{Prod: -1}}}, true},
		"empty kids":      {&api.Tree{Prod: 0, Kids: []*api.Tree{{Prod: -1, Kids: []*api.Tree{}}}}, true},
		"a leaf's kids":   {&api.Tree{Prod: 0, Kids: []*api.Tree{{Prod: -1, Kids: []*api.Tree{nil}}}}, false},
		"a leaf's Prod":   {&api.Tree{Prod: 0, Kids: []*api.Tree{{Prod: -2}}}, false},
		"a leaf of Prod":  {&api.Tree{Prod: 0, Kids: []*api.Tree{{Prod: 0}}}, false},
		"a node's Token":  {&api.Tree{Prod: 0, Token: 1, Kids: []*api.Tree{{Prod: -1}}}, false},
		"a node of -1":    {&api.Tree{Prod: -1, Kids: []*api.Tree{{Prod: -1}}}, false},
		"far off":         {&api.Tree{Prod: math.MinInt, Token: math.MinInt}, false},
	} {
		if got := parse.Sound(g, c.tree, []int{0}); got != c.want {
			t.Errorf("%s: %v", name, got)
		}
	}
	if !parse.Sound(g, tree(t, "(1 (2))"), nil) {
		t.Error("a node without kids")
	}
	bad := tree(t, "(1 (2))")
	bad.Kids[0].Token = 1
	if parse.Sound(g, bad, nil) {
		t.Error("a Token of a node within")
	}
}

// P73: of a grammar that is not valid there are no trees.
func TestSoundWantsValidGrammar(t *testing.T) {
	g := of(t, "SaSb", "S")
	r := tree(t, "(0 0 (1) 1)")
	for name, spoil := range map[string]func(*api.Grammar){
		"Start":  func(g *api.Grammar) { g.Start = 1 },
		"Names":  func(g *api.Grammar) { g.Names = 0 },
		"Terms":  func(g *api.Grammar) { g.Terms = api.MaxSyms + 1 },
		"Level":  func(g *api.Grammar) { g.Prods[1].Level = 1 },
		"Levels": func(g *api.Grammar) { g.Levels = []int{0} },
		"Sides":  func(g *api.Grammar) { g.Sides = []int{0} },
		"Left":   func(g *api.Grammar) { g.Prods = append(g.Prods, api.Prod{Left: -1}) },
		"Right":  func(g *api.Grammar) { g.Prods = append(g.Prods, api.Prod{Right: []int{2}}) },
		"Prods":  func(g *api.Grammar) { g.Prods = append(g.Prods, make([]api.Prod, api.MaxProds)...) },
		"all":    func(g *api.Grammar) { *g = api.Grammar{} },
	} {
		bad := of(t, "SaSb", "S")
		spoil(&bad)
		if parse.Sound(bad, r, terms("ab")) || parse.Sound(bad, nil, nil) || !parse.Sound(g, r, terms("ab")) {
			t.Errorf("%s: is sound", name)
		}
	}
}

// P73: Start need not be the name 0.
func TestSoundOtherStart(t *testing.T) {
	g := of(t, "Sb", "ASa")
	g.Start = 1
	if !parse.Sound(g, tree(t, "(1 (0 0) 1)"), terms("ba")) || parse.Sound(g, tree(t, "(0 0)"), terms("b")) {
		t.Error("Start is 1")
	}
	g.Start = 0
	if parse.Sound(g, tree(t, "(1 (0 0) 1)"), terms("ba")) || !parse.Sound(g, tree(t, "(0 0)"), terms("b")) {
		t.Error("Start is 0")
	}
}

// P1: one tree may stand in many places; then a tree is far larger than what it is made of.
func TestSoundOfSharedTrees(t *testing.T) {
	g := of(t, "SSS", "S", "SA", "A", "Sa", "SASA")
	shared := func(r *api.Tree, prod int) *api.Tree {
		for range 100 {
			r = &api.Tree{Prod: prod, Kids: []*api.Tree{r, r}}
		}
		return r
	}
	if !parse.Sound(g, shared(tree(t, "(1)"), 0), nil) {
		t.Error("nodes without leaves")
	}
	for _, text := range []string{"(2 (1))", "(2)", "(3)", "()", "0", "(0 (1) (3))"} {
		if parse.Sound(g, shared(tree(t, text), 0), nil) {
			t.Errorf("%s: is sound", text)
		}
	}
	if parse.Sound(g, shared(tree(t, "(4 0)"), 0), []int{0, 0}) || parse.Sound(g, shared(tree(t, "(4 0)"), 0), []int{0}) {
		t.Error("leaves")
	}
	// A node without leaves that is a tree of one name is none of another.
	bare := tree(t, "(3)")
	for _, c := range []struct {
		kids []*api.Tree
		want bool
	}{
		{[]*api.Tree{bare, tree(t, "(1)"), bare}, true},
		{[]*api.Tree{bare, bare, bare}, false},
		{[]*api.Tree{bare, tree(t, "(1)"), tree(t, "(1)")}, false},
	} {
		if got := parse.Sound(g, &api.Tree{Prod: 5, Kids: c.kids}, nil); got != c.want {
			t.Errorf("%v: %v", c.kids, got)
		}
	}
}
