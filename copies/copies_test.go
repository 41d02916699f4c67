package copies_test

import (
	"reflect"
	"slices"
	"testing"

	"grammarsmith/api"
	"grammarsmith/copies"
)

// places tells where all lies that a thing has in lists and behind pointers.
func places(v reflect.Value) []uintptr {
	var out []uintptr
	switch v.Kind() {
	case reflect.Pointer:
		if !v.IsNil() {
			out = append(append(out, v.Pointer()), places(v.Elem())...)
		}
	case reflect.Slice:
		for i := range v.Cap() {
			one := v.Slice(0, v.Cap()).Index(i)
			out = append(append(out, one.Addr().Pointer()), places(one)...)
		}
	case reflect.Struct:
		for i := range v.NumField() {
			out = append(out, places(v.Field(i))...)
		}
	}
	return out
}

// checkCopy asks for a copy that is the same, and lies elsewhere.
func checkCopy[T any](t *testing.T, x T, of func(T) T) {
	t.Helper()
	got := of(x)
	if !reflect.DeepEqual(got, x) {
		t.Errorf("%+v, want %+v", got, x)
	}
	taken := places(reflect.ValueOf(x))
	for _, p := range places(reflect.ValueOf(got)) {
		if slices.Contains(taken, p) {
			t.Fatalf("%+v: a part of the copy is one of %+v", got, x)
		}
	}
}

func TestCopies(t *testing.T) {
	a := &api.Re{Kind: api.RSet, Set: []api.Range{{Lo: 1, Hi: 2}, {Lo: 4, Hi: 5}}}
	checkCopy(t, []api.Rule{
		{Name: "a", Re: &api.Re{Kind: api.RCat, Kids: []*api.Re{a, {Kind: api.RRep, Min: 1, Max: 3, Kids: []*api.Re{a}}}}, Mode: 2, Push: -1, Skip: true},
		{Name: "b", Re: a, Push: 2, Pop: true},
	}, copies.Rules)
	checkCopy(t, nil, copies.Rules)
	checkCopy(t, &api.Expr{Kind: api.ELet, Text: "a", Kids: []*api.Expr{{Kind: api.ENum, Num: 7}, {Kind: api.EList, Kids: []*api.Expr{{Kind: api.EName, Text: "a"}}}}}, copies.Expr)
	checkCopy(t, api.Grammar{Terms: 2, Names: 3, Start: 1, Prods: []api.Prod{{Left: 1, Right: []int{0, -1}, Level: 2}, {Left: 2}}, Levels: []int{1, 2}, Sides: []int{1, 3}}, copies.Grammar)
	checkCopy(t, api.Table{Acts: [][]api.Act{{{Kind: 1, To: 2}, {}}, {{Kind: 3}, {}}}, Gotos: [][]int{{1}, {-1}}, Conflicts: []api.Conflict{{State: 1, Term: 2, Kind: 1, A: -1, B: 3}}}, copies.Table)
	checkCopy(t, &api.Tree{Prod: 1, Kids: []*api.Tree{{Prod: -1, Token: 5}, {Prod: 2}, {Prod: 3, Kids: []*api.Tree{{Prod: -1, Token: 6}}}}}, copies.Tree)
	checkCopy(t, &api.Tree{Prod: -1, Token: 2}, copies.Tree)
}

// What stands in two places stands in each on its own then.
func TestCopiesOfShared(t *testing.T) {
	kid := &api.Tree{Prod: 1}
	got := copies.Tree(&api.Tree{Kids: []*api.Tree{kid, kid}})
	if got.Kids[0] == got.Kids[1] || got.Kids[0] == kid || got.Kids[1] == kid || !reflect.DeepEqual(got.Kids, []*api.Tree{kid, kid}) {
		t.Errorf("%+v", got)
	}
}

// Trees may be deep.
func TestCopyOfDeepTree(t *testing.T) {
	const depth = 2000000
	r := &api.Tree{Prod: -1, Token: 7}
	for range depth {
		r = &api.Tree{Kids: []*api.Tree{r}}
	}
	got, count := copies.Tree(r), 0
	for ; len(got.Kids) > 0; count++ {
		got = got.Kids[0]
	}
	if count != depth || got.Token != 7 || got.Prod != -1 {
		t.Errorf("%d deep, %+v", count, got)
	}
}
