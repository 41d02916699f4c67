package parse_test

import (
	"reflect"
	"slices"
	"testing"

	"grammarsmith/api"
	"grammarsmith/parse"
)

// roomy gives a list that has room behind its end, where marks show who writes there.
func roomy[T any](l []T, mark T) []T {
	out := append(slices.Clone(l), mark, mark, mark)
	return out[:len(l)]
}

// whole is a copy of a list with what stands behind its end.
func whole[T any](l []T) []T {
	return slices.Clone(l[:cap(l)])
}

// scribble writes into all of a list, also behind its end.
func scribble[T any](l []T, v T) {
	l = l[:cap(l)]
	for i := range l {
		l[i] = v
	}
}

// input is all that is handed in.
type input struct {
	g  api.Grammar
	x  api.Table
	in []int
	r  *api.Tree
}

// spacious has room behind all of its lists.
func (i input) spacious() input {
	i.g.Levels, i.g.Sides, i.g.Prods = roomy(i.g.Levels, 77), roomy(i.g.Sides, 77), roomy(i.g.Prods, api.Prod{Left: 77})
	for p := range i.g.Prods {
		i.g.Prods[p].Right = roomy(i.g.Prods[p].Right, 77)
	}
	i.x.Acts, i.x.Gotos, i.x.Conflicts = roomy(i.x.Acts, nil), roomy(i.x.Gotos, nil), roomy(i.x.Conflicts, api.Conflict{A: 77})
	for s := range i.x.Acts {
		i.x.Acts[s] = roomy(i.x.Acts[s], api.Act{Kind: 77})
	}
	for s := range i.x.Gotos {
		i.x.Gotos[s] = roomy(i.x.Gotos[s], 77)
	}
	i.in, i.r = roomy(i.in, 77), copied(i.r)
	for _, k := range all(i.r) {
		k.Kids = roomy(k.Kids, &api.Tree{Token: 77})
	}
	return i
}

// deep is a copy with what stands behind the ends of the lists.
func (i input) deep() input {
	i.g.Levels, i.g.Sides, i.g.Prods = whole(i.g.Levels), whole(i.g.Sides), whole(i.g.Prods)
	for p := range i.g.Prods {
		i.g.Prods[p].Right = whole(i.g.Prods[p].Right)
	}
	i.x.Acts, i.x.Gotos, i.x.Conflicts = whole(i.x.Acts), whole(i.x.Gotos), whole(i.x.Conflicts)
	for s := range i.x.Acts {
		i.x.Acts[s] = whole(i.x.Acts[s])
	}
	for s := range i.x.Gotos {
		i.x.Gotos[s] = whole(i.x.Gotos[s])
	}
	i.in, i.r = whole(i.in), deepTree(i.r)
	return i
}

func deepTree(r *api.Tree) *api.Tree {
	if r == nil {
		return nil
	}
	out := &api.Tree{Prod: r.Prod, Token: r.Token, Kids: whole(r.Kids)}
	for i, k := range out.Kids {
		out.Kids[i] = deepTree(k)
	}
	return out
}

// answers are what all calls of the chapter answer.
type answers struct {
	Fits, Sound bool
	Parse, Show string
	Next        []int
}

func (i input) ask() answers {
	return answers{
		Fits: parse.Fits(i.g, i.x), Sound: parse.Sound(i.g, i.r, i.in),
		Parse: told(parse.Parse(i.g, i.x, i.in)), Show: parse.Show(i.r), Next: parse.Next(i.g, i.x, i.in),
	}
}

// inputs are of each kind of answer.
func inputs(t *testing.T) map[string]input {
	t.Helper()
	g := of(t, "SSaS", "SA", "Ab", "A")
	g.Levels, g.Sides, g.Prods[0].Level = []int{1, 0}, []int{api.ToLeft}, 1
	out := map[string]input{}
	for name, letters := range map[string]string{"a tree": "baaab", "nothing": "", "an error": "bab!", "one at the end": "bb"} {
		x := made(t, makers[1], g)
		x.Conflicts = []api.Conflict{{State: 1}}
		r, _ := parse.Parse(g, x, terms(letters))
		out[name] = input{g, x, terms(letters), r}
	}
	out["trees too few"] = input{g, fitting(t, g, ">0 /0 /1|. ."), terms("ab"), tree(t, "(0 () (0) 3)")}
	out["too many reductions"] = input{g, fitting(t, g, ">0 /3 /3|. 0"), terms("ab"), nil}
	out["no fit"] = input{g, api.Table{Acts: [][]api.Act{nil}, Gotos: [][]int{{9}}}, terms("ab"), tree(t, "3")}
	return out
}

// P4: what is handed in stays as it is, also behind the ends of its lists.
func TestInputStays(t *testing.T) {
	for name, i := range inputs(t) {
		i = i.spacious()
		ahead := i.deep()
		i.ask()
		if !reflect.DeepEqual(i.deep(), ahead) {
			t.Errorf("%s: has changed", name)
		}
	}
}

// P4: what is answered stays as it is when what was handed in is written into, and is not changed by later calls.
func TestAnswersAreNew(t *testing.T) {
	i := inputs(t)["a tree"]
	want := "(0 (0 (0 (1 (2 0)) 1 (1 (3))) 2 (1 (3))) 3 (1 (2 4)))"
	first, err := parse.Parse(i.g, i.x, i.in)
	if err != nil || parse.Show(first) != want {
		t.Fatalf("%s, %v", parse.Show(first), err)
	}
	next := parse.Next(i.g, i.x, i.in)
	second, _ := parse.Parse(i.g, i.x, i.in)
	for _, k := range all(second) {
		scribble(k.Kids, &api.Tree{Prod: 99})
		k.Prod, k.Token = 99, 99
	}
	scribble(parse.Next(i.g, i.x, i.in), 99)
	if again := i.ask(); again.Parse != want || !slices.Equal(again.Next, []int{0, 2}) || parse.Show(first) != want {
		t.Errorf("asked again: %+v", again)
	}
	for p := range i.g.Prods {
		scribble(i.g.Prods[p].Right, 99)
	}
	for s := range i.x.Acts {
		scribble(i.x.Acts[s], api.Act{Kind: 99})
		scribble(i.x.Gotos[s], 99)
	}
	scribble(i.g.Prods, api.Prod{})
	scribble(i.x.Acts, nil)
	scribble(i.in, 99)
	if parse.Show(first) != want || !slices.Equal(next, []int{0, 2}) {
		t.Errorf("%s, %v", parse.Show(first), next)
	}
}

// P4: no two trees of an answer are one, and no two lists share memory.
func TestTreesAreApart(t *testing.T) {
	d := &dice{seed: 75}
	count := 0
	for range 300 {
		g, x := d.read()
		in := d.list(g, 6)
		r, err := parse.Parse(g, x, in)
		if err != nil {
			continue
		}
		count++
		met, want := map[*api.Tree]bool{}, parse.Show(r)
		for _, k := range all(r) {
			if met[k] {
				t.Fatalf("%s: a tree stands there twice", want)
			}
			met[k] = true
			_ = append(k.Kids, &api.Tree{Prod: 99}) // behind the end of a list no other one has its trees
		}
		if parse.Show(r) != want {
			t.Fatalf("%s has become %s", want, parse.Show(r))
		}
	}
	if count < 50 {
		t.Errorf("only %d trees", count)
	}
}

// P2: the same is answered each time.
func TestSameEachTime(t *testing.T) {
	for name, i := range inputs(t) {
		want := i.ask()
		for range 5 {
			if got := i.ask(); !reflect.DeepEqual(got, want) {
				t.Errorf("%s: %+v, want %+v", name, got, want)
			}
		}
	}
}

// P3: a nil list and an empty one are one thing.
func TestNilAndEmpty(t *testing.T) {
	g := api.Grammar{Names: 1, Prods: []api.Prod{{}}}
	x := made(t, makers[0], g)
	empty := g
	empty.Levels, empty.Sides, empty.Prods = []int{}, []int{}, []api.Prod{{Right: []int{}}}
	y := x
	y.Conflicts = []api.Conflict{}
	for _, i := range []input{{g, x, nil, &api.Tree{}}, {empty, y, []int{}, &api.Tree{Kids: []*api.Tree{}}}} {
		if got, want := i.ask(), (answers{true, true, "(0)", "(0)", []int{0}}); !reflect.DeepEqual(got, want) {
			t.Errorf("%+v: %+v", i, got)
		}
	}
	for _, i := range []input{{}, {g: g}, {g: api.Grammar{Prods: []api.Prod{}}, x: api.Table{Acts: [][]api.Act{}, Gotos: [][]int{}}, in: []int{}}} {
		if got := i.ask(); got.Fits || got.Sound || got.Parse != api.ErrSyntax.Error() || got.Show != "()" || len(got.Next) != 0 {
			t.Errorf("%+v: %+v", i, got)
		}
	}
}

// wild is anything at all, by now and then putting an odd number where one stands.
type wild struct {
	dice
	rare int
}

func (w *wild) odd(n int) int {
	if w.next(w.rare) > 0 {
		return n
	}
	return odd[w.next(len(odd))]
}

func (w *wild) list(l []int) []int {
	if w.next(w.rare) == 0 {
		return l[:w.next(len(l)+1)]
	}
	var out []int
	for _, n := range l {
		out = append(out, w.odd(n))
	}
	return out
}

func (w *wild) input() input {
	g, x := w.bent()
	i := input{g: g, in: w.dice.list(g, 5)}
	r, _ := parse.Parse(g, x, i.in)
	i.g.Terms, i.g.Names, i.g.Start = w.odd(g.Terms), w.odd(g.Names), w.odd(g.Start)
	i.g.Levels = w.list(nil)
	for p := range g.Prods {
		i.g.Prods[p] = api.Prod{Left: w.odd(g.Prods[p].Left), Right: w.list(g.Prods[p].Right), Level: w.odd(0)}
	}
	for s := range x.Acts {
		var acts []api.Act
		for _, a := range x.Acts[s] {
			acts = append(acts, api.Act{Kind: w.odd(a.Kind), To: w.odd(a.To)})
		}
		i.x.Acts, i.x.Gotos = append(i.x.Acts, acts), append(i.x.Gotos, w.list(x.Gotos[s]))
	}
	i.in = w.list(i.in)
	if len(all(r)) < 50 {
		i.r = w.tree(r)
	}
	return i
}

func (w *wild) tree(r *api.Tree) *api.Tree {
	if r == nil || w.next(w.rare) == 0 {
		return nil
	}
	out := &api.Tree{Prod: w.odd(r.Prod), Token: w.odd(r.Token)}
	for _, k := range r.Kids {
		for range 1 + w.next(w.rare)/(w.rare-1) {
			out.Kids = append(out.Kids, w.tree(k))
		}
	}
	return out
}

// P1, P3: no call panics, whatever it is given; with an error there is no tree, and what does not fit has no tree and no next ones.
func TestNothingPanics(t *testing.T) {
	seen := map[string]int{}
	for _, rare := range []int{2, 20, 200} {
		w := &wild{dice{seed: 76}, rare}
		for range 2000 {
			i := w.input()
			r, err := parse.Parse(i.g, i.x, i.in)
			a := i.ask()
			if (err != nil) != (r == nil) || (err == api.ErrSyntax) != !a.Fits || !a.Fits && len(a.Next) > 0 {
				t.Fatalf("%+v: %+v", i, a)
			}
			if a.Sound != (parse.Fits(i.g, rows(i.g)) && modelSound(i.g, i.r, i.in)) {
				t.Fatalf("%+v: %s: sound: %v", i, a.Show, a.Sound)
			}
			if err != nil {
				seen[err.Error()]++
			}
			seen["trees"] += map[bool]int{true: 1}[err == nil]
			seen["sound"] += map[bool]int{true: 1}[a.Sound]
		}
	}
	for _, what := range []string{"trees", "sound", api.ErrSyntax.Error(), api.ErrEnd.Error(), api.ErrRule.Error()} {
		if seen[what] < 50 {
			t.Errorf("%s: only %d", what, seen[what])
		}
	}
}

// rows is a table that fits each grammar that is valid.
func rows(g api.Grammar) api.Table {
	if min(g.Terms, g.Names) < 0 || max(g.Terms, g.Names) > api.MaxSyms {
		return api.Table{}
	}
	return api.Table{Acts: [][]api.Act{make([]api.Act, g.Terms+1)}, Gotos: [][]int{make([]int, g.Names)}}
}

// P1: calls end soon with tables as large as may be, also where each terminal is asked for, and behind each there are as many reductions as may be.
func TestLargeTables(t *testing.T) {
	g := api.Grammar{Terms: api.MaxSyms, Names: api.MaxSyms, Prods: []api.Prod{{}, {Right: []int{-1}}}}
	acts, gotos := make([]api.Act, g.Terms+1), make([]int, g.Names)
	for term := range acts {
		acts[term] = api.Act{Kind: api.ActReduce, To: term % 2}
	}
	x := api.Table{Acts: slices.Repeat([][]api.Act{acts}, api.MaxTable), Gotos: slices.Repeat([][]int{gotos}, api.MaxTable)}
	if !parse.Fits(g, x) {
		t.Fatal("does not fit")
	}
	if got := parse.Next(g, x, nil); len(got) != 0 {
		t.Errorf("Next: %v", got)
	}
	checkFault(t, "more and more trees", g, x, nil, api.ErrBound, 0)
	checkFault(t, "no tree", g, x, []int{1}, api.ErrRule, 0)
}
