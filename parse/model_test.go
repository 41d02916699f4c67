package parse_test

import (
	"slices"
	"testing"

	"grammarsmith/api"
	"grammarsmith/parse"
)

// model goes by the words of P71, with a list of trees and a list of states.
func model(g api.Grammar, x api.Table, in []int) (*api.Tree, error) {
	var trees []*api.Tree
	states := []int{0}
	at, reductions := 0, 0
	for {
		term := g.Terms
		if at < len(in) {
			term = in[at]
		}
		if at < len(in) && (term < 0 || term >= g.Terms) {
			return nil, &api.Fault{Err: api.ErrEnd, At: at}
		}
		act := x.Acts[states[len(states)-1]][term]
		if act.Kind == api.ActNone {
			return nil, &api.Fault{Err: api.ErrEnd, At: at}
		}
		if act.Kind == api.ActAccept {
			if len(trees) != 1 || trees[0].Prod < 0 || g.Prods[trees[0].Prod].Left != g.Start {
				return nil, &api.Fault{Err: api.ErrRule, At: at}
			}
			return trees[0], nil
		}
		if act.Kind == api.ActShift {
			trees = append(trees, &api.Tree{Prod: -1, Token: at})
			states = append(states, act.To)
			at, reductions = at+1, 0
			continue
		}
		if reductions++; reductions > 10000 {
			return nil, &api.Fault{Err: api.ErrBound, At: at}
		}
		ahead := len(trees) - len(g.Prods[act.To].Right)
		if ahead < 0 || x.Gotos[states[ahead]][g.Prods[act.To].Left] < 0 {
			return nil, &api.Fault{Err: api.ErrRule, At: at}
		}
		node := &api.Tree{Prod: act.To, Kids: slices.Clone(trees[ahead:])}
		trees = append(trees[:ahead], node)
		states = append(states[:ahead+1], x.Gotos[states[ahead]][g.Prods[act.To].Left])
	}
}

// modelNext goes by the words of P72: behind a terminal that is shifted another one is looked at, which is none.
func modelNext(g api.Grammar, x api.Table, in []int) []int {
	var out []int
	for term := range g.Terms {
		_, err := model(g, x, append(slices.Clone(in), term, -1))
		if fault, is := err.(*api.Fault); is && fault.At == len(in)+1 {
			out = append(out, term)
		}
	}
	if _, err := model(g, x, in); err == nil {
		out = append(out, g.Terms)
	}
	return out
}

// check holds Parse and Next against the model, and tells what Parse answered.
func check(t *testing.T, g api.Grammar, x api.Table, in []int) string {
	t.Helper()
	r, err := parse.Parse(g, x, in)
	if got, want := told(r, err), told(model(g, x, in)); got != want {
		t.Fatalf("%v by %+v of %+v: %.1000s, want %.1000s", in, x, g, got, want)
	}
	if got, want := parse.Next(g, x, in), modelNext(g, x, in); !slices.Equal(got, want) {
		t.Fatalf("Next of %v by %+v of %+v: %v, want %v", in, x, g, got, want)
	}
	if err != nil {
		return err.Error()
	}
	return "a tree"
}

// P71, P72: tables of small grammars, held against the model; trees are sound.
func TestReadByModel(t *testing.T) {
	d := &dice{seed: 71}
	seen := map[string]int{}
	for range 600 {
		g, x := d.read()
		if !parse.Fits(g, x) {
			t.Fatalf("%+v does not fit %+v", x, g)
		}
		lists := texts(g.Terms, 3)
		for range 20 {
			lists = append(lists, d.list(g, 8))
		}
		for _, in := range lists {
			what := check(t, g, x, in)
			seen[what]++
			if what != "a tree" {
				continue
			}
			if r, _ := parse.Parse(g, x, in); !parse.Sound(g, r, in) {
				t.Fatalf("%v by %+v of %+v: %s is not sound", in, x, g, parse.Show(r))
			}
		}
	}
	if min(seen["a tree"], seen[api.ErrEnd.Error()]) < 1000 {
		t.Errorf("seen: %v", seen)
	}
}

// P71, P72: tables that fit, and are of no grammar, held against the model.
func TestLooseByModel(t *testing.T) {
	d := &dice{seed: 72}
	seen := map[string]int{}
	sound := map[bool]int{}
	for i := range 4000 {
		g := d.grammar()
		x := d.loose(g)
		if i%5 > 0 {
			g, x = d.bent()
		}
		if !parse.Fits(g, x) {
			t.Fatalf("%+v does not fit %+v", x, g)
		}
		for range 5 {
			in := d.list(g, 6)
			what := check(t, g, x, in)
			seen[what]++
			if what == "a tree" {
				r, _ := parse.Parse(g, x, in)
				if got := parse.Sound(g, r, in); got != modelSound(g, r, in) {
					t.Fatalf("%s with %v of %+v: sound: %v", parse.Show(r), in, g, got)
				}
				sound[parse.Sound(g, r, in)]++
			}
		}
	}
	for _, what := range []string{"a tree", api.ErrEnd.Error(), api.ErrRule.Error(), api.ErrBound.Error()} {
		if seen[what] < 200 {
			t.Errorf("%s: only %d", what, seen[what])
		}
	}
	if min(sound[true], sound[false]) < 50 {
		t.Errorf("sound: %v", sound)
	}
}

// modelSound goes by the words of P73: it finds the symbol of each tree, and then the leaves.
func modelSound(g api.Grammar, r *api.Tree, in []int) bool {
	var leaves []int
	var is func(r *api.Tree, symbol int) bool
	is = func(r *api.Tree, symbol int) bool {
		if r == nil {
			return false
		}
		if symbol >= 0 {
			leaves = append(leaves, symbol)
			return r.Prod == -1 && len(r.Kids) == 0 && r.Token == len(leaves)-1
		}
		if r.Prod < 0 || r.Prod >= len(g.Prods) || r.Token != 0 {
			return false
		}
		p := g.Prods[r.Prod]
		if p.Left != -1-symbol || len(p.Right) != len(r.Kids) {
			return false
		}
		for i, k := range r.Kids {
			if !is(k, p.Right[i]) {
				return false
			}
		}
		return true
	}
	return is(r, -1-g.Start) && slices.Equal(leaves, in)
}
