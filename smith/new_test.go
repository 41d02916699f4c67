package smith_test

import (
	"fmt"
	"slices"
	"strings"
	"testing"

	"grammarsmith/api"
	"grammarsmith/plain"
	"grammarsmith/smith"
	"grammarsmith/tongue"
)

const sums = "grammar sums tokens n = `[0-9]+`; p = `\\+`; m = `\\*`; b = `[ ]+` skip; levels left p; left m; rules e : int = e p e { $1 + $3 } | e m e { $1 * $3 } | n { int($1, 0) };"

// P120: a tool of a text, and of what it says.
func TestNewAndFrom(t *testing.T) {
	said, err := tongue.Read(sums)
	if err != nil {
		t.Fatal(err)
	}
	from, err := smith.From(said)
	if err != nil {
		t.Fatal(err)
	}
	for _, x := range []*smith.Tool{mustNew(t, sums), from} {
		checkRun(t, x, "1 + 2 * 30 + 4", whole(65))
	}
	x := mustNew(t, "grammar n tokens d = `[0-9]+`; rules s : int = d { int($1, 0) };")
	checkRun(t, x, "12", whole(12))
}

// P120: the errors of tongue.Read are those of New.
func TestNewOfNoText(t *testing.T) {
	for _, s := range []string{"", "grammar", "grammar g ?", "grammar g tokens a = `(`;", "grammar g tokens a = `a{51}`;", "grammar " + strings.Repeat("a", 41), strings.Repeat(" ", api.MaxText+1), "grammar g rules s : int = { $21 };"} {
		x, err := smith.New(s)
		_, want := tongue.Read(s)
		code, at := plain.Code(want)
		if got, gotAt := plain.Code(err); x != nil || want == nil || got != code || gotAt != at {
			t.Errorf("%.100q: %v at %d, want %v at %d", s, err, gotAt, want, at)
		}
	}
}

// P120, 1: names of pieces and sorts.
func TestNewOfNamesThatAreTaken(t *testing.T) {
	for s, at := range map[string]int{
		"grammar g tokens a = `a`; a = `b`; rules s : int = a { 1 };":                                1,
		"grammar g tokens a = `a`; b = `b`; c = `c`; b = `d`; a = `e`; rules s : int = a { 1 };":     3,
		"grammar g rules s : int = a { 1 }; tokens a = `a`; tokens : m a = `a`;":                     1,
		"grammar g tokens a = `a` skip; b = `b`; a = `c`; rules s : int = b { 1 };":                  2,
		"grammar g tokens a = `a` push a; tokens : a b = `b` pop; a = `c`; rules s : int = b { 1 };": 2,
		"grammar g tokens a = `a`; rules a : int = { 1 };":                                           0,
		"grammar g rules s : int = a { 1 }; u : int = { 1 }; a : int = { 1 }; tokens a = `a`;":       2,
		"grammar g tokens a = `a` skip; rules s : int = { 1 }; a : int = { 1 };":                     1,
		"grammar g rules s : int = { 1 }; s : int = { 1 };":                                          1,
		"grammar g rules s : int = { 1 } | { 2 } | { 3 }; u : int = { 1 }; rules u : text = { 1 };":  2,
	} {
		checkWrong(t, s, api.ErrName, at)
	}
	// The names of modes, of ranks and of the grammar are names of their own.
	mustNew(t, "grammar s tokens a = `a` push s; tokens : s b = `b` pop; rules s : int = a b { 1 };")
}

// P120, 1: without sorts there is no tool.
func TestNewOfNoSorts(t *testing.T) {
	for _, s := range []string{"grammar g", "grammar g rules", "grammar g tokens a = `a`;", "grammar g tokens a = `()`; b = `b` push m; levels left c;"} {
		checkWrong(t, s, api.ErrName, 0)
	}
	if x, err := smith.From(api.Spec{}); x != nil || err == nil {
		t.Error("of nothing there is a tool")
	}
}

// P120, 2: what scan.New answers.
func TestNewOfPiecesThatAreNoRules(t *testing.T) {
	rules := " rules s : int = a { 1 };"
	for _, c := range []struct {
		pieces string
		err    error
		at     int
	}{
		{"a = `a*`;", api.ErrRule, 0},
		{"a = `a`; b = ``;", api.ErrRule, 1},
		{"a = `a`; b = `[ab]*a[ab]{9}`;", api.ErrBound, 1},
		{"a = `[ab]*a[ab]{7}`; b = `([ab]{3})+`;", api.ErrBound, 1},
		{"a = `[ab]+`; b = `ab|ba`; c = `c`;", api.ErrRule, 1},
		{"a = `a`; b = `[]`;", api.ErrRule, 1},
		{"a = `a`; b = `a` skip;", api.ErrRule, 1},
		{"a = `a`; b = `b` push m;", api.ErrRule, 1},
		{"a = `a`; b = `b` push m; tokens : m c = `c` push n;", api.ErrRule, 2},
		{"a = `a` push m; tokens : n c = `c` push m;", api.ErrRule, 0},
		{"a = `a`; b = `b*` push m;", api.ErrRule, 1},
		{"a = `a`; b = `a`; c = `c*`;", api.ErrRule, 1},
		{"a = `a`; b = `[ab]*a[ab]{9}`; c = `c*`;", api.ErrBound, 1},
	} {
		checkWrong(t, "grammar g tokens "+c.pieces+rules, c.err, c.at)
	}
	mustNew(t, "grammar g tokens a = `[ab]*a[ab]{7}`; tokens : m b = `([ab]{3})+`;"+rules)
	mustNew(t, "grammar g tokens a = `a`; tokens : m b = `a`;"+rules)
}

// numbered is a text for each number below a count, one behind the other.
func numbered(count int, text func(i int) string) string {
	var b strings.Builder
	for i := range count {
		b.WriteString(text(i))
	}
	return b.String()
}

// P120, 2: as many pieces as there may be, and one more.
func TestNewOfManyPieces(t *testing.T) {
	pieces := func(count int) string {
		return "grammar g tokens " + numbered(count, func(i int) string { return fmt.Sprintf("p%d = `<%d>`;", i, i) })
	}
	x := mustNew(t, pieces(api.MaxRules)+"rules s : text = p199 { $1 };")
	checkRun(t, x, "<199>", words("<199>"))
	checkWrong(t, pieces(api.MaxRules+1)+"rules s : text = p199 { $1 };", api.ErrBound, api.MaxRules)
	// Of too many nothing else is asked.
	checkWrong(t, pieces(10)+"e = ``;"+strings.TrimPrefix(strings.ReplaceAll(pieces(api.MaxRules), "p", "q"), "grammar g tokens ")+"rules s : text = p1 { $1 };", api.ErrBound, api.MaxRules)
}

// modesOf tells the modes of rules, and those that they push.
func modesOf(x *smith.Tool) (modes, pushes []int) {
	for _, r := range x.Rules() {
		modes, pushes = append(modes, r.Mode), append(pushes, r.Push)
	}
	return modes, pushes
}

// P120, 2: modes are numbered as they are come to.
func TestModesAreNumbered(t *testing.T) {
	for _, c := range []struct {
		pieces        string
		modes, pushes []int
	}{
		{"tokens a = `a`;", []int{0}, []int{-1}},
		{"tokens : m a = `a`;", []int{1}, []int{-1}},
		{"tokens : m a = `a`; tokens b = `b`; tokens : n c = `c`; tokens : m d = `d`;", []int{1, 0, 2, 1}, []int{-1, -1, -1, -1}},
		{"tokens a = `a` push n; b = `b` push m; tokens : m c = `c`; tokens : n d = `d`;", []int{0, 0, 2, 1}, []int{1, 2, -1, -1}},
		{"tokens : m a = `a` push n; tokens : o b = `b` push m; tokens : n c = `c` push o;", []int{1, 3, 2}, []int{2, 1, 3}},
		{"tokens : m a = `a` push m;", []int{1}, []int{1}},
	} {
		x := mustNew(t, "grammar g "+c.pieces+" rules s : int = a { 1 };")
		if modes, pushes := modesOf(x); !slices.Equal(modes, c.modes) || !slices.Equal(pushes, c.pushes) {
			t.Errorf("%s: modes %v, pushes %v", c.pieces, modes, pushes)
		}
	}
}

// P120, 2: as many modes as there may be, and one more.
func TestNewOfManyModes(t *testing.T) {
	modes := func(from, to int) string {
		return numbered(to-from, func(i int) string { return fmt.Sprintf("tokens : m%d p%d = `p`;", from+i, from+i) })
	}
	rules := " rules s : int = a { 1 };"
	// The mode "" is one of them, also where no piece is in it.
	mustNew(t, "grammar g tokens a = `a`;"+modes(1, api.MaxModes)+rules)
	mustNew(t, "grammar g tokens : m1 a = `a`;"+modes(2, api.MaxModes)+rules)
	checkWrong(t, "grammar g tokens a = `a`;"+modes(1, api.MaxModes+1)+rules, api.ErrBound, api.MaxModes)
	checkWrong(t, "grammar g tokens : m1 a = `a`;"+modes(2, api.MaxModes+5)+rules, api.ErrBound, api.MaxModes-1)
	// Those that are pushed count, where they are come to.
	checkWrong(t, "grammar g tokens a = `a`;"+modes(1, api.MaxModes)+"tokens b = `b`; c = `c` push x;"+rules, api.ErrBound, api.MaxModes+1)
	checkWrong(t, "grammar g tokens a = `a` push x;"+modes(1, api.MaxModes)+rules, api.ErrBound, api.MaxModes-1)
	mustNew(t, "grammar g tokens a = `a` push m15;"+modes(1, api.MaxModes)+rules)
}

// P120, 3: symbols and levels of cases.
func TestNewOfSymbolsThatAreNone(t *testing.T) {
	ahead := "grammar g tokens a = `a`; b = `b` skip; levels left a; rules "
	for s, at := range map[string]int{
		"s : int = c { 1 };":                                          0,
		"s : int = b { 1 };":                                          0,
		"s : int = a { 1 } | a s c { 1 };":                            1,
		"s : int = u { 1 } | a { 1 }; u : int = { 1 } | a b { 1 };":   3,
		"s : int = g { 1 };":                                          0,
		"s : int = { 1 } | % c { 1 };":                                1,
		"s : int = { 1 } | % b { 1 };":                                1,
		"s : int = { 1 } | a % s { 1 };":                              1,
		"s : int = a % a { 1 } | u { 1 }; u : int = { 1 } | % u {1};": 3,
		"s : int = { 1 } | % c { 1 } | d { 1 };":                      1,
		"s : int = { 1 } | d { 1 } | % c { 1 };":                      1,
	} {
		checkWrong(t, ahead+s, api.ErrName, at)
	}
	mustNew(t, ahead+"s : int = { 1 } | a s % a { 1 };")
	checkWrong(t, "grammar g tokens a = `a`; tokens : m b = `b`; rules s : int = a { 1 } | m { 1 };", api.ErrName, 1)
}

// P120, 3: names of ranks.
func TestNewOfRanksThatAreNone(t *testing.T) {
	for s, at := range map[string]int{
		"left c;": 0, "left b;": 0, "left s;": 0, "left g;": 0, "left a; right c;": 1, "left a; right d c; none c;": 1, "left d; none a b;": 1,
		"left a a;": 0, "left a d a;": 0, "left d; none a a;": 1, "left a; left a;": 1, "left a d; right e; none f d;": 2, "left a; left c; left a;": 1, "left a; left a; left c;": 1,
	} {
		checkWrong(t, "grammar g tokens a = `a`; b = `b` skip; d = `d`; e = `e`; f = `f`; levels "+s+" rules s : int = a { 1 };", api.ErrName, at)
	}
	mustNew(t, "grammar g tokens a = `a`; d = `d`; levels left d; right a; rules s : int = a { 1 };")
}

// counts says how many productions, sorts, symbols of a case and ranks there are.
type counts struct{ prods, sorts, right, ranks int }

// text has that many of each.
func (c counts) text() string {
	var b strings.Builder
	b.WriteString("grammar g tokens ")
	for i := range max(c.ranks, 21) {
		fmt.Fprintf(&b, "t%d = `<%d>`; ", i, i)
	}
	b.WriteString("levels ")
	for i := range c.ranks {
		fmt.Fprintf(&b, "left t%d; ", i)
	}
	fmt.Fprintf(&b, "rules s0 : int = %s { 1 }", strings.Repeat("t0 ", c.right))
	for i := range c.prods - c.sorts - 1 {
		fmt.Fprintf(&b, " | t%d t%d { 1 }", 1+i/20, 1+i%20)
	}
	b.WriteString(" | t20 t20 s1 { 1 };")
	for i := 1; i < c.sorts-1; i++ {
		fmt.Fprintf(&b, " s%d : int = t0 s%d { 1 };", i, i+1)
	}
	fmt.Fprintf(&b, " s%d : int = t0 { 1 };", c.sorts-1)
	return b.String()
}

// P120, 4: as many of each as there may be, and one more.
func TestNewOfGrammarsThatAreNotValid(t *testing.T) {
	for _, c := range []struct{ most, more counts }{
		{counts{api.MaxProds, 2, 2, 0}, counts{api.MaxProds + 1, 2, 2, 0}},
		{counts{api.MaxSyms + 1, api.MaxSyms, 2, 0}, counts{api.MaxSyms + 2, api.MaxSyms + 1, 2, 0}},
		{counts{5, 2, api.MaxRight, 0}, counts{5, 2, api.MaxRight + 1, 0}},
		{counts{5, 2, 2, 50}, counts{5, 2, 2, 51}},
	} {
		x := mustNew(t, c.most.text())
		if g := x.Grammar(); len(g.Prods) != c.most.prods || g.Names != c.most.sorts || len(g.Sides) != c.most.ranks || len(g.Prods[0].Right) != c.most.right {
			t.Errorf("%+v: %d productions, %d names, %d sides, %d symbols", c.most, len(g.Prods), g.Names, len(g.Sides), len(g.Prods[0].Right))
		}
		checkWrong(t, c.more.text(), api.ErrBound, 0)
	}
}

// P120, 5: what is wrong with an action.
func TestNewOfActionsThatAreWrong(t *testing.T) {
	ahead := "grammar g tokens a = `a`; rules "
	for _, c := range []struct {
		rules string
		err   error
		at    int
	}{
		{"s : int = { $1 };", api.ErrName, 0},
		{"s : int = a { 1 } | a a { $3 };", api.ErrName, 1},
		{"s : int = { x };", api.ErrName, 0},
		{"s : int = { let x = 1 in y };", api.ErrName, 0},
		{"s : int = { 1 + \"a\" };", api.ErrType, 0},
		{"s : int = a { $1 + 1 };", api.ErrType, 0},
		{"s : int = a { 1 } | a u { $1 ++ $2 }; u : int = a { 1 };", api.ErrType, 1},
		{"s : int = { [1, \"a\"] };", api.ErrType, 0},
		{"s : int = { if \"a\" then 1 else 2 };", api.ErrType, 0},
		{"s : int = { 1 + \"a\" + x };", api.ErrType, 0},
		{"s : int = { x + (1 + \"a\") };", api.ErrName, 0},
		{"s : int = { \"a\" };", api.ErrType, 0},
		{"s : int = a { $1 };", api.ErrType, 0},
		{"s : text = { 1 };", api.ErrType, 0},
		{"s : node = { [] };", api.ErrType, 0},
		{"s : int = { [] };", api.ErrType, 0},
		{"s : list int = { 1 };", api.ErrType, 0},
		{"s : list int = { [\"a\"] };", api.ErrType, 0},
		{"s : list int = { [[]] };", api.ErrType, 0},
		{"s : list list int = { [1] };", api.ErrType, 0},
		{"s : list node = { [node(\"a\", [])] } | { node(\"a\", []) };", api.ErrType, 1},
		{"s : int = u { 1 }; u : list int = a { [] } | a a { [1] } | { [[1]] };", api.ErrType, 3},
		{"s : node = u { node(\"a\", $1) }; u : list int = a { [] };", api.ErrType, 0},
		{"s : int = { 1 } | { \"a\" } | { x };", api.ErrType, 1},
		{"s : int = { 1 } | { x } | { \"a\" };", api.ErrName, 1},
	} {
		checkWrong(t, ahead+c.rules, c.err, c.at)
	}
	for _, s := range []string{
		"s : list int = { [] } | a { [1] };", "s : list list int = { [] } | a { [[]] } | a a { [[], [1]] };", "s : list list list text = { [] } | a { [[]] } | a a { [[[]], [[$1]]] };", "s : list text = a { [$1] } | a s { [$1] ++ $2 };", "s : node = { node(\"a\", []) } | a s { node($1, [$2]) };", "s : int = u { at($1, 0, 5) }; u : list int = { [] };",
	} {
		mustNew(t, ahead+s)
	}
}

// P120, 6: what table.LALR answers, and conflicts.
func TestNewOfGrammarsWithoutTables(t *testing.T) {
	for s, at := range map[string]int{
		"tokens a = `a`; rules s : int = a { 1 }; u : int = a { 1 };":                           1,
		"tokens a = `a`; rules s : int = a { 1 } | u a { 1 } | a a { 1 }; u : int = u a { 1 };": 1,
		"tokens a = `a`; rules s : int = a s { 1 };":                                            0,
	} {
		checkWrong(t, "grammar g "+s, api.ErrRule, at)
	}
	checkWrong(t, "grammar g tokens p = `\\+`; n = `n`; rules e : int = e p e { 1 } | n { 2 };", api.ErrConflict, 4)
	checkWrong(t, "grammar g tokens p = `\\+`; n = `n`; levels left n; rules e : int = e p e { 1 } | n { 2 };", api.ErrConflict, 4)
	checkWrong(t, "grammar g tokens n = `n`; rules s : int = n { 1 } | u { 2 }; u : int = n { 3 };", api.ErrConflict, 1)
	checkWrong(t, "grammar g tokens n = `n`; rules s : int = { 1 } | s { 2 };", api.ErrConflict, 1)
	mustNew(t, "grammar g tokens p = `\\+`; n = `n`; levels left p; rules e : int = e p e { 1 } | n { 2 };")
	mustNew(t, "grammar g tokens p = `\\+`; n = `n`; levels none p; rules e : int = e p e { 1 } | n { 2 };")
	var b strings.Builder
	b.WriteString("grammar g tokens ")
	for i := range 120 {
		fmt.Fprintf(&b, "t%d = `<%d>`; ", i, i)
	}
	b.WriteString("rules s : int = t0 { 1 }")
	for i := 1; i < 120; i++ {
		fmt.Fprintf(&b, " | t%d %s{ 1 }", i, strings.Repeat("t0 ", api.MaxRight-1))
	}
	checkWrong(t, b.String()+";", api.ErrBound, 0)
}

// flaw is one thing that is wrong: an entry of one of the three kinds of parts. What is told of two flaws is that of the lesser rank.
type flaw struct {
	rank, part int
	entry      string
	err        error
	atZero     bool
}

// The parts in which flaws stand.
const (
	inTokens = iota
	inLevels
	inRules
)

var flaws = []flaw{
	{10, inTokens, "a = `y`;", api.ErrName, false},
	{11, inRules, "a : int = { x };", api.ErrName, false},
	{11, inRules, "s : int = { \"a\" };", api.ErrName, false},
	{20, inTokens, "p1 = `y*`;", api.ErrRule, false},
	{20, inTokens, "p2 = `y` push m;", api.ErrRule, false},
	{20, inTokens, "p3 = `[yz]*y[yz]{9}`;", api.ErrBound, false},
	{20, inTokens, "p4 = `a` skip;", api.ErrRule, false},
	{30, inRules, "s1 : int = nobody { x };", api.ErrName, false},
	{30, inRules, "s2 : int = b { 1 };", api.ErrName, false},
	{30, inRules, "s3 : int = % nobody { 1 };", api.ErrName, false},
	{30, inRules, "s4 : int = a % s4 { $9 };", api.ErrName, false},
	{31, inLevels, "left nobody;", api.ErrName, false},
	{31, inLevels, "none b;", api.ErrName, false},
	{31, inLevels, "right s;", api.ErrName, false},
	{31, inLevels, "right a;", api.ErrName, false},
	{31, inLevels, "right c c;", api.ErrName, false},
	{40, inRules, "s5 : int = " + strings.Repeat("a ", api.MaxRight+1) + "{ x };", api.ErrBound, true},
	{50, inRules, "s6 : int = a { $2 };", api.ErrName, false},
	{50, inRules, "s7 : int = a { \"a\" < 1 };", api.ErrType, false},
	{50, inRules, "s8 : int = a { $1 };", api.ErrType, false},
	{60, inRules, "s9 : int = a { 1 };", api.ErrRule, false},
	{60, inRules, "s10 : int = a s10 { 1 };", api.ErrRule, false},
}

// flawed is a text with flaws, its parts in some order, and of each flaw its number in its part.
func flawed(order [3]int, l ...flaw) (string, []int) {
	parts := [3]string{"tokens a = `a`; b = `b` skip; c = `c`; ", "levels left a; ", "rules s : int = a { 1 } | c { 2 }; "}
	next := [3]int{3, 1, 2}
	var at []int
	for _, f := range l {
		parts[f.part] += f.entry + " "
		at = append(at, next[f.part])
		if f.rank == 11 { // of sorts, not of productions: there is one less
			at[len(at)-1]--
		}
		next[f.part]++
	}
	text := "grammar g "
	for _, i := range order {
		text += parts[i]
	}
	return text, at
}

// P120: of two errors the one is told that the list has first, wherever they stand in the text; of two of one kind that which stands first.
func TestFirstErrorOfTheList(t *testing.T) {
	orders := [][3]int{{0, 1, 2}, {0, 2, 1}, {1, 0, 2}, {1, 2, 0}, {2, 0, 1}, {2, 1, 0}}
	for i, f := range flaws {
		for _, order := range orders {
			text, at := flawed(order, f)
			if f.atZero {
				at[0] = 0
			}
			checkWrong(t, text, f.err, at[0])
			for j, g := range flaws {
				if i == j {
					continue
				}
				text, at := flawed(order, f, g)
				first, place := f, at[0]
				if g.rank < f.rank {
					first, place = g, at[1]
				}
				if first.atZero {
					place = 0
				}
				checkWrong(t, text, first.err, place)
			}
		}
	}
	for _, f := range flaws {
		if f.part != inRules {
			text, at := flawed([3]int{0, 1, 2}, f)
			text = strings.ReplaceAll(text, "rules s : int = a { 1 } | c { 2 }; ", "rules ")
			if f.rank == 10 {
				checkWrong(t, text, f.err, at[0])
			} else {
				checkWrong(t, text, api.ErrName, 0)
			}
		}
	}
}
