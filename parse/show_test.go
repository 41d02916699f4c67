package parse_test

import (
	"math"
	"strings"
	"testing"

	"grammarsmith/api"
	"grammarsmith/parse"
)

// P73: trees as texts.
func TestShow(t *testing.T) {
	leaf := &api.Tree{Prod: -1, Token: 7}
	for _, c := range []struct {
		tree *api.Tree
		want string
	}{
		{nil, "()"},
		{&api.Tree{}, "(0)"},
		{&api.Tree{Prod: 5}, "(5)"},
		{&api.Tree{Prod: 399, Kids: []*api.Tree{}}, "(399)"},
		{&api.Tree{Prod: 5, Token: 3}, "(5)"},
		{leaf, "7"},
		{&api.Tree{Prod: -1}, "0"},
		{&api.Tree{Prod: -1, Token: -12}, "-12"},
		{&api.Tree{Prod: -2, Token: 12}, "12"},
		{&api.Tree{Prod: math.MinInt, Token: math.MaxInt}, "9223372036854775807"},
		{&api.Tree{Prod: -9, Token: math.MinInt}, "-9223372036854775808"},
		{&api.Tree{Prod: math.MaxInt}, "(9223372036854775807)"},
		{&api.Tree{Prod: -1, Token: 4, Kids: []*api.Tree{leaf, nil}}, "4"}, // a leaf's kids are not told
		{&api.Tree{Prod: 1, Kids: []*api.Tree{leaf}}, "(1 7)"},
		{&api.Tree{Prod: 1, Kids: []*api.Tree{nil}}, "(1 ())"},
		{&api.Tree{Prod: 1, Kids: []*api.Tree{nil, nil}}, "(1 () ())"},
		{&api.Tree{Prod: 1, Kids: []*api.Tree{leaf, {Prod: 2}, nil, leaf}}, "(1 7 (2) () 7)"},
		{&api.Tree{Prod: 0, Kids: []*api.Tree{{Prod: 3, Kids: []*api.Tree{{Prod: 10}, leaf}}, leaf}}, "(0 (3 (10) 7) 7)"},
	} {
		if got := parse.Show(c.tree); got != c.want {
			t.Errorf("%+v: %q, want %q", c.tree, got, c.want)
		}
	}
}

// P73, P1: trees as deep as may be.
func TestDeepTrees(t *testing.T) {
	const depth = 1 << 16
	g := of(t, "SS", "S")
	r := &api.Tree{Prod: 1}
	for range depth - 1 {
		r = &api.Tree{Kids: []*api.Tree{r}}
	}
	if want := strings.Repeat("(0 ", depth-1) + "(1)" + strings.Repeat(")", depth-1); parse.Show(r) != want {
		t.Error("Show")
	}
	if !parse.Sound(g, r, nil) || parse.Sound(g, r, []int{0}) {
		t.Error("Sound")
	}
}
