package action_test

import (
	"testing"

	"grammarsmith/action"
	"grammarsmith/api"
)

// P100: which types fit which, by the words.
func TestFits(t *testing.T) {
	all := allTypes(3)
	for _, a := range all {
		for _, b := range all {
			if got := action.Fits(a, b); got != fits(a, b) {
				t.Errorf("%s fits %s: %v", showType(a), showType(b), got)
			}
		}
		for what, b := range noTypes() {
			if action.Fits(a, b) || action.Fits(b, a) {
				t.Errorf("%s and %s fit", showType(a), what)
			}
		}
	}
}

// Make gives what Eval does, also of values that it has made itself, and leaves these as they are.
func TestMakeAsEval(t *testing.T) {
	d := &dice{seed: 41}
	for range 3000 {
		values := []api.Value{d.value(simple(api.Int), 2), d.value(simple(api.Text), 2), d.value(simple(api.Node), 2), d.value(listOf(simple(api.Int)), 2)}
		var weighed []action.Weighed
		for _, v := range values {
			weighed = append(weighed, action.Weigh(v))
		}
		for range 6 {
			e := d.expr(3)
			made := action.Make(e, weighed)
			if got, want := made.Own(), action.Eval(e, values); !sameValue(got, want) {
				t.Fatalf("%+v: %+v, want %+v", e, got, want)
			}
			i := d.next(len(values))
			values[i], weighed[i] = action.Eval(e, values), made
		}
		for i, v := range values {
			if !sameValue(weighed[i].Own(), v) {
				t.Fatalf("%+v has become %+v", v, weighed[i].Own())
			}
		}
	}
}

// P104: as many arguments as an expression may ask for, and more.
func TestEvalOfManyArguments(t *testing.T) {
	var args []api.Value
	for i := range 2 * api.MaxRight {
		args = append(args, whole(int64(i+1)))
		if got := action.Eval(arg(int64(min(i+1, api.MaxRight))), args); !sameValue(got, args[min(i, api.MaxRight-1)]) {
			t.Errorf("%d arguments: %+v", i+1, got)
		}
	}
}

// Own gives memory that is shared with nothing.
func TestOwn(t *testing.T) {
	w := action.Weigh(many(whole(1), many(whole(2))))
	made := action.Make(row(arg(1), arg(1)), []action.Weighed{w})
	own := made.Own()
	own.List[0].List[0] = whole(9)
	if !sameValue(own.List[1], many(whole(1), many(whole(2)))) || !sameValue(w.Own(), own.List[1]) || !sameValue(made.Own().List[0], own.List[1]) {
		t.Errorf("%+v, %+v", own, made.Own())
	}
}

// A value that is too heavy, or lies in itself, becomes the zero value.
func TestWeighOfTooMuch(t *testing.T) {
	round := make([]api.Value, 1)
	round[0] = many(round...)
	v := many(whole(1))
	for range 60 {
		v = many(v, v)
	}
	for i, v := range []api.Value{round[0], v} {
		if got := action.Weigh(v); !sameValue(got.Value, api.Value{}) {
			t.Errorf("%d: not the zero value", i)
		}
	}
}
