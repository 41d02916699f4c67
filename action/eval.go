package action

import (
	"slices"
	"strconv"
	"strings"
	"unicode/utf8"

	"grammarsmith/api"
)

// maker makes values of expressions beside arguments. An argument without a weight is weighed when it is first asked for.
type maker struct {
	args []Weighed
}

// value gives the value of a valid expression within some lets: where its kids are not as asked, nothing.
func (m *maker) value(e *api.Expr, names []named[Weighed]) Weighed {
	switch e.Kind {
	case api.ENum:
		return number(e.Num)
	case api.EText:
		return textOf(e.Text)
	case api.EArg:
		return m.arg(e.Num)
	case api.EName:
		v, known := lookUp(names, e.Text)
		if !known {
			return nothing()
		}
		return v
	case api.ELet:
		return m.value(e.Kids[1], append(names, named[Weighed]{e.Text, m.value(e.Kids[0], names)}))
	case api.EIf:
		if m.value(e.Kids[0], names).Num != 0 {
			return m.value(e.Kids[1], names)
		}
		return m.value(e.Kids[2], names)
	}
	var kids []Weighed
	for _, k := range e.Kids {
		kids = append(kids, m.value(k, names))
	}
	switch e.Kind {
	case api.EList:
		return listed(kids)
	case api.ENeg:
		return calculated("-", number(0), kids[0])
	case api.EOp:
		return calculated(e.Text, kids[0], kids[1])
	}
	return answered(e.Text, kids)
}

func (m *maker) arg(place int64) Weighed {
	if place > int64(len(m.args)) {
		return nothing()
	}
	arg := &m.args[place-1]
	if arg.weight == 0 {
		*arg = Weigh(arg.Value)
	}
	return *arg
}

func textOf(s string) Weighed {
	return Weighed{api.Value{Kind: api.Text, Text: s}, 1 + len(s)}
}

func listed(kids []Weighed) Weighed {
	weight := 1
	var list []api.Value
	for _, k := range kids {
		weight += k.weight
		list = append(list, k.Value)
	}
	return bounded(api.Value{Kind: api.List, List: list}, weight)
}

// calculated gives what an operator makes of two values.
func calculated(operator string, a, b Weighed) Weighed {
	switch {
	case operator == "==":
		return truth(same(a.Value, b.Value))
	case operator == "++":
		return oneBehindTheOther(a, b)
	case a.Kind == api.Text && b.Kind == api.Text && operator == "<":
		return truth(a.Text < b.Text)
	case a.Kind != api.Int || b.Kind != api.Int:
		return nothing()
	case operator == "<":
		return truth(a.Num < b.Num)
	}
	return number(counted(operator, a.Num, b.Num))
}

func counted(operator string, a, b int64) int64 {
	switch operator {
	case "+":
		return a + b
	case "-":
		return a - b
	case "*":
		return a * b
	}
	if b == 0 {
		return 0
	}
	if operator == "/" {
		return a / b
	}
	return a % b
}

// oneBehindTheOther looks at the weight first: what is too heavy is not made at all.
func oneBehindTheOther(a, b Weighed) Weighed {
	weight := a.weight + b.weight - 1
	switch {
	case weight > maxWeight || a.Kind != b.Kind:
		return nothing()
	case a.Kind == api.Text:
		return textOf(joined(a.Text, b.Text))
	case a.Kind == api.List:
		return Weighed{api.Value{Kind: api.List, List: slices.Concat(a.List, b.List)}, weight}
	}
	return nothing()
}

// answered gives what a function makes of values.
func answered(function string, kids []Weighed) Weighed {
	first := kids[0]
	switch {
	case function == "len" && first.Kind == api.Text:
		return number(int64(utf8.RuneCountInString(first.Text)))
	case function == "len" && first.Kind == api.List:
		return number(int64(len(first.List)))
	case function == "text" && first.Kind == api.Int:
		return textOf(strconv.FormatInt(first.Num, 10))
	case function == "int" && first.Kind == api.Text:
		return readNumber(first.Text, kids[1])
	case function == "at" && first.Kind == api.List:
		return elementOf(first.List, kids[1].Num, kids[2])
	case function == "node" && first.Kind == api.Text && kids[1].Kind == api.List:
		return bounded(api.Value{Kind: api.Node, Text: first.Text, List: kids[1].List}, kids[1].weight+len(first.Text))
	case function == "tag" && first.Kind == api.Node:
		return textOf(first.Text)
	case function == "kids" && first.Kind == api.Node:
		return Weighed{api.Value{Kind: api.List, List: first.List}, first.weight - len(first.Text)}
	}
	return nothing()
}

// readNumber: a number that is no more than a - and digits. (The library would take a + as well.)
func readNumber(s string, other Weighed) Weighed {
	n, err := strconv.ParseInt(s, 10, 64)
	if err != nil || strings.HasPrefix(s, "+") {
		return other
	}
	return number(n)
}

func elementOf(list []api.Value, at int64, other Weighed) Weighed {
	if at < 0 || at >= int64(len(list)) {
		return other
	}
	return Weigh(list[at])
}
