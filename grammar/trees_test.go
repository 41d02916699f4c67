package grammar_test

import (
	"reflect"
	"slices"
	"testing"

	"grammarsmith/api"
	"grammarsmith/grammar"
)

func checkSame(t *testing.T, name string, got, want answers) {
	t.Helper()
	if !reflect.DeepEqual(got, want) {
		t.Errorf("%s: %+v, want %+v", name, got, want)
	}
}

func checkBools(t *testing.T, what, text string, got []bool, want string) {
	t.Helper()
	if !slices.Equal(got, bools(want)) {
		t.Errorf("%s of %q: %v, want %s", what, text, got, want)
	}
}

// P51: which names have a tree.
func TestLives(t *testing.T) {
	for text, want := range map[string]string{
		"S : a S b |":                      "+",
		"S : a":                            "+",
		"S":                                "-",
		"S : S":                            "-",
		"S : a S":                          "-",
		"S : S S | a":                      "+",
		"S : A; A : B; B : A":              "---",
		"S : A; A : B; B : A | b":          "+++",
		"S : A B; A : a; B : b B":          "-+-",
		"S : A | B; A : a A; B :":          "+-+",
		"S : a; T : T; U : U u |; V":       "+-+-",
		"S : A; A : B; B : C; C : D; D : ": "+++++",
		"D : ; C : D; B : C; A : B; S : A": "+++++",
		"S : A B C; A : ; B : ; C : c C":   "-++-",
		"S : A a | B b; A : S; B : S":      "---",
	} {
		checkBools(t, "Lives", text, grammar.Lives(of(t, text)), want)
	}
}

// P51: which productions stand in a tree of Start.
func TestUsed(t *testing.T) {
	for text, want := range map[string]string{
		"S : a S b |":                         "++",
		"S : a S b | ; T : T":                 "++-",
		"S : a; T : b":                        "+-",
		"S : S":                               "-",
		"S : S | a":                           "++",
		"S : A | a; A : A":                    "-+-",
		"S : A B | a; A : a; B : B":           "-+--",
		"S : A B; A : a; B : B":               "---",
		"S : A | C; A : a B; B : b | ; C : c": "++++++",
		"S : A; A : B D | a; B : b; D : d D":  "+-+--",
		"S : a; T : S":                        "+-",
		"S : a | T; T : U; U : S":             "++++",
		"S : A A; A : B; B : | b; C : A B":    "+++" + "+-",
		"S":                                   "",
		"S : a | a | T T; T : | S":            "+++++",
	} {
		checkBools(t, "Used", text, grammar.Used(of(t, text)), want)
	}
}

// P51: Start may be any name.
func TestUsedOfAnotherStart(t *testing.T) {
	g := of(t, "S : a T; T : b | U; U : U")
	g.Start = 1
	checkBools(t, "Used", "start T", grammar.Used(g), "-+--")
	g.Start = 2
	checkBools(t, "Used", "start U", grammar.Used(g), "----")
	g.Start = 0
	checkBools(t, "Used", "start S", grammar.Used(g), "++--")
}

// P52: which names have the empty sentence.
func TestEmpty(t *testing.T) {
	for text, want := range map[string]string{
		"S : a S b |": "+",
		"S : a":       "-",
		"S":           "-",
		"S : S":       "-",
		"S : S S |":   "+",
		"S : A B C; A : ; B : A A | b; C : B | c": "++++",
		"S : A B C; A : ; B : A a; C : ":          "-+-+",
		"S : A | T; A : T; T : A":                 "---",
		"S : A T | a; A : ; T : T":                "-+-",
		"S : a; T : U; U : T |":                   "-++",
	} {
		checkBools(t, "Empty", text, grammar.Empty(of(t, text)), want)
	}
}

// P54: which names stand within themselves with the same sentence.
func TestLoops(t *testing.T) {
	for text, want := range map[string]string{
		"S : S | a":                                 "+",
		"S : S":                                     "-", // it has no tree
		"S : a S b |":                               "-",
		"S : S a | a":                               "-",
		"S : S S | a":                               "-",
		"S : S S | a |":                             "+",
		"S : S S |":                                 "+",
		"S : A; A : B | a; B : A":                   "-++",
		"S : A; A : B; B : A":                       "---",
		"S : A S A | s; A : |a":                     "+-",
		"S : A S A | s; A : a":                      "--",
		"S : A S | s; A : B B; B : | b":             "+--",
		"S : A S | s; A : B b; B : | b":             "---",
		"S : A S T | s; A : ; T : T":                "---",
		"S : A S T | s; A : ; T : T |":              "+-+",
		"S : s; T : T | U; U : u":                   "-+-", // no tree of Start has T, but T has trees
		"S : A; A : B; B : C; C : A | S c | c":      "-+++",
		"S : A; A : B; B : C; C : S | c":            "++++",
		"S : A | B | a; A : S; B : a B b | a B b S": "++-",
		"S : A A A; A : S":                          "--",
		"S : A A A; A : S | ":                       "++",
		"S : A A A; A : S | a":                      "--",
		"S":                                         "-",
		"S : S S S S S S S S S S S S S S S S S S S S |": "+",
	} {
		checkBools(t, "Loops", text, grammar.Loops(of(t, text)), want)
	}
}

// P54: a loop may go through all names.
func TestLongLoop(t *testing.T) {
	g := api.Grammar{Terms: 1, Names: api.MaxSyms}
	for n := range api.MaxSyms {
		g.Prods = append(g.Prods, api.Prod{Left: n, Right: []int{-1 - (n+1)%api.MaxSyms}})
	}
	if slices.Contains(grammar.Loops(g), true) {
		t.Error("without a tree")
	}
	g.Prods = append(g.Prods, api.Prod{Left: 7, Right: []int{0}})
	if slices.Contains(grammar.Loops(g), false) {
		t.Error("with a tree")
	}
	g.Prods[11].Right = []int{-13, 0}
	if slices.Contains(grammar.Loops(g), true) {
		t.Error("with a terminal on the way")
	}
}
