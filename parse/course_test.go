package parse_test

import (
	"slices"
	"strings"
	"testing"

	"grammarsmith/api"
	"grammarsmith/parse"
)

// courseOf is the course of no terminals.
func courseOf(t *testing.T, g api.Grammar, x api.Table) *parse.Course {
	t.Helper()
	c, err := parse.NewCourse(g, x)
	if err != nil || c == nil {
		t.Fatalf("NewCourse: %v", err)
	}
	return c
}

// checkCourse holds a course of terminals against Parse.
func checkCourse(t *testing.T, c *parse.Course, g api.Grammar, x api.Table, in []int) {
	t.Helper()
	if got, want := told(c.Tree()), told(parse.Parse(g, x, in)); got != want {
		t.Fatalf("%+v: %v: %s, want %s", g, in, got, want)
	}
}

// P71: a course says of its terminals what Parse does, by hand.
func TestCourse(t *testing.T) {
	g := of(t, "SaSb", "S")
	x := made(t, makers[1], g)
	c := courseOf(t, g, x)
	checkCourse(t, c, g, x, nil)
	for _, s := range []string{"ab", "aabb", "aab", "aa", "aabb", "b", "", "abb", "a!b", "ac", "a!bb", "ab", "ab"} {
		c = c.Of(terms(s))
		checkCourse(t, c, g, x, terms(s))
	}
}

// P70, P71: a table must fit, as for Parse.
func TestCourseOfNoFit(t *testing.T) {
	g := of(t, "SaSb", "S")
	for _, x := range []api.Table{{}, {Acts: [][]api.Act{nil}, Gotos: [][]int{{0}}}} {
		if c, err := parse.NewCourse(g, x); c != nil || err != api.ErrSyntax {
			t.Errorf("%+v: %v", x, err)
		}
	}
	if c, err := parse.NewCourse(api.Grammar{}, api.Table{}); c != nil || err != api.ErrSyntax {
		t.Errorf("%v", err)
	}
}

// P71: courses of many lists of terminals, by tables of all kinds; also such that go on from one course, which none of them changes.
func TestCoursesAgainstParse(t *testing.T) {
	d := &dice{seed: 61}
	trees := 0
	for round := range 1500 {
		g, x := d.read()
		switch round % 3 {
		case 1:
			g, x = d.bent()
		case 2:
			x = d.loose(g)
		}
		lists := [][]int{nil}
		courses := []*parse.Course{courseOf(t, g, x)}
		for range 12 {
			i := d.next(len(courses))
			in := slices.Concat(lists[i][:d.next(len(lists[i])+1)], d.list(g, 4))
			lists, courses = append(lists, in), append(courses, courses[i].Of(in))
			if _, err := parse.Parse(g, x, in); err == nil {
				trees++
			}
		}
		for i, c := range courses {
			checkCourse(t, c, g, x, lists[i])
		}
	}
	if trees < 1000 {
		t.Errorf("only %d trees", trees)
	}
}

// P4: a course keeps nothing that is handed in, and what it answers is new.
func TestCourseKeepsNothing(t *testing.T) {
	for name, i := range inputs(t) {
		if !parse.Fits(i.g, i.x) {
			continue
		}
		want := told(parse.Parse(i.g, i.x, i.in))
		mine := i.spacious()
		c := courseOf(t, mine.g, mine.x)
		scribble(mine.g.Prods, api.Prod{Left: 77})
		for s := range mine.x.Acts {
			scribble(mine.x.Acts[s], api.Act{Kind: 77})
		}
		for s := range mine.x.Gotos {
			scribble(mine.x.Gotos[s], 77)
		}
		c = c.Of(mine.in)
		scribble(mine.in, 0)
		zeros := make([]int, len(i.in))
		checkCourse(t, c.Of(zeros), i.g, i.x, zeros)
		next := c.Of(append(slices.Clone(i.in), 0))
		for _, one := range []*parse.Course{c, c.Of(i.in), c.Of(append(slices.Clone(i.in), 0)).Of(i.in), next.Of(i.in)} {
			r, err := one.Tree()
			if got := told(r, err); got != want {
				t.Fatalf("%s: %s, want %s", name, got, want)
			}
			for _, k := range all(r) {
				scribble(k.Kids, &api.Tree{Token: 77})
				k.Prod, k.Token = 77, 77
			}
			if f, is := err.(*api.Fault); is {
				f.Err, f.At = api.ErrName, 77
			}
			if got := told(one.Tree()); got != want {
				t.Fatalf("%s: %s behind what was written, want %s", name, got, want)
			}
		}
	}
}

// What terminals begin with as others do is not read again: no trees are made of it.
func TestCourseGoesOn(t *testing.T) {
	g := of(t, "SSa", "S")
	x := made(t, makers[1], g)
	in := terms(strings.Repeat("a", 6000))
	none := courseOf(t, g, x)
	most := none.Of(in[:5990])
	for _, c := range []struct {
		name        string
		from        *parse.Course
		least, most float64
	}{{"from the beginning", none, 6000, 60000}, {"from near the end", most, 10, 200}, {"from the same", most.Of(in), 1, 100}} {
		if made := testing.AllocsPerRun(3, func() { c.from.Of(in) }); made < c.least || made > c.most {
			t.Errorf("%s: %v things are made", c.name, made)
		}
		checkCourse(t, c.from.Of(in), g, x, in)
	}
}
