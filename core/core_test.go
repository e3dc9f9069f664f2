package core_test

import (
	"slices"
	"testing"

	"caracole/api"
	"caracole/core"
	"caracole/guard"
	"caracole/sample"
	"caracole/term"
)

// function is a function that nobody can call.
type function struct{ core.Function }

func data(text string) core.Value {
	d := sample.Read(text)
	return core.NewData(&d)
}

func large(pieces int) core.Value {
	d := sample.Wide(pieces - 1)
	return core.NewData(&d)
}

// pair is the pair of two values.
func pair(v, w core.Value) core.Value {
	p, e := guard.Call(func() core.Value { return core.Join(v, w) })
	if e != api.OK {
		panic(e)
	}
	return p
}

// told is what a function returns as it is shown, or its error.
func told(work func() core.Value) string {
	v, e := guard.Call(work)
	if e != api.OK {
		return e.Error()
	}
	return sample.Show(core.Show(v))
}

// TestValues: which values are data, pairs and functions, how many pieces they have, and what they are shown as.
func TestValues(t *testing.T) {
	f := function{}
	for i, x := range []struct {
		v              core.Value
		datum, pair    bool
		pieces         int
		shown, element string
	}{
		{data("5"), true, false, 1, "5", "error 4"}, {data("(1 2)"), true, false, 5, "(1 2)", "1 2"}, {data("()"), true, false, 1, "()", ""}, {data("(1 . 2)"), true, false, 3, "(1 . 2)", "error 4"}, {f, false, false, 1, "function", "error 4"},
		{pair(data("1"), data("2")), true, false, 3, "(1 . 2)", "error 4"}, {pair(f, data("(1 2)")), false, true, 7, "(function 1 2)", "function 1 2"}, {pair(data("(1 2)"), pair(f, data("()"))), false, true, 9, "((1 2) function)", "(1 2) function"},
		{pair(data("1"), f), false, true, 3, "(1 . function)", "error 4"}, {pair(f, pair(f, f)), false, true, 5, "(function function . function)", "error 4"}, {pair(pair(f, f), data("()")), false, true, 5, "((function . function))", "(function . function)"},
	} {
		_, datum := x.v.Datum()
		if datum != x.datum || core.IsPair(x.v) != x.pair || core.IsFunction(x.v) == (x.datum || x.pair) || x.v.Pieces() != x.pieces || sample.Show(core.Show(x.v)) != x.shown {
			t.Error(i, datum, x.v.Pieces(), sample.Show(core.Show(x.v)))
		}
		l, e := guard.Call(func() []core.Value { return core.Elements(x.v) })
		var shown []api.Datum
		for _, v := range l {
			shown = append(shown, core.Show(v))
		}
		got := sample.ShowAll(shown)
		if e != api.OK {
			got = e.Error()
		}
		if got != x.element {
			t.Error(i, got, "want", x.element)
		}
		if e == api.OK {
			if again := told(func() core.Value { return core.List(l...) }); again != x.shown {
				t.Error(i, again)
			}
		}
	}
}

// TestMany: pairs and lists have at most 2000 pieces.
func TestMany(t *testing.T) {
	f := function{}
	for n, want := range map[int]api.Errno{1998: api.OK, 1999: api.ErrLarge} {
		for i, work := range []func() core.Value{
			func() core.Value { return core.Join(f, large(n)) }, func() core.Value { return core.Join(large(n), data("1")) }, func() core.Value { return core.Join(large(900), pair(f, large(n-901))) }, func() core.Value { return core.List(large(n)) },
			func() core.Value { return core.List(slices.Repeat([]core.Value{f}, n/2+n%2)...) }, func() core.Value { return core.List(f, large(n-2)) }, func() core.Value { return core.Operate("cons", f, large(n)) }, func() core.Value { return core.Operate("cons", data("1"), large(n)) },
		} {
			if _, e := guard.Call(work); e != want {
				t.Error(n, i, e)
			}
		}
	}
}

// TestOperate: of data as layer 4 says, of other values as layer 7 says.
func TestOperate(t *testing.T) {
	values := []core.Value{function{}, pair(function{}, data("1")), pair(data("(1)"), function{}), data("5"), data("(1 2)"), data("a"), data("#f")}
	same := func(op string, args ...core.Value) {
		t.Helper()
		var l []api.Datum
		for _, v := range args {
			if d, ok := v.Datum(); ok {
				l = append(l, d)
			}
		}
		got := told(func() core.Value { return core.Operate(op, args...) })
		want := told(func() core.Value {
			d := guard.Get(term.Delta(op, l))
			return core.NewData(&d)
		})
		if len(l) < len(args) {
			want = special(op, args)
		}
		if got != want {
			t.Error(op, got, want)
		}
	}
	for _, v := range values {
		for _, op := range sample.Unary() {
			same(op, v)
		}
		for _, w := range values {
			for _, op := range sample.Binary() {
				same(op, v, w)
			}
		}
	}
}

// special is what an operation makes of values that are not all data.
func special(op string, args []core.Value) string {
	shown := core.Show(args[0])
	truth := map[bool]string{true: "#t", false: "#f"}
	switch op {
	case "cons":
		return sample.Show(sample.Pair(shown, core.Show(args[1])))
	case "eq", "not", "null?", "num?", "sym?", "str?", "bool?", "vec?":
		return "#f"
	case "pair?", "fn?":
		return truth[(shown.Kind == api.Pair) == (op == "pair?")]
	case "car", "cdr":
		if shown.Kind == api.Pair {
			return sample.Show(shown.Parts[map[string]int{"cdr": 1}[op]])
		}
	}
	return "error 4"
}

func TestIsFalse(t *testing.T) {
	for text, want := range map[string]bool{"#f": true, "#t": false, "0": false, "()": false, "(#f)": false} {
		if core.IsFalse(data(text)) != want {
			t.Error(text)
		}
	}
	if core.IsFalse(function{}) || core.IsFalse(pair(function{}, data("#f"))) {
		t.Error("a function, or a pair")
	}
}

// TestTerms: which arguments come early, and what terms bind.
func TestTerms(t *testing.T) {
	r := sample.NewRandom(1)
	for range 500 {
		x := r.Term(4)
		if got := core.Early(x.Op, len(x.Args)); got != sample.Early(x) {
			t.Error(sample.TermText(x), got)
		}
		for i, arg := range x.Args {
			for _, name := range sample.Free(arg) {
				part := x
				part.Args = slices.Clone(x.Args)
				for k := range part.Args {
					if k != i {
						part.Args[k] = sample.Quote(sample.Num(1))
					}
				}
				if got := core.Binds(&x, i, name); got == slices.Contains(sample.Free(part), name) {
					t.Error(sample.TermText(x), i, name, got)
				}
			}
		}
	}
	for params, want := range []api.Errno{api.ErrMany, api.OK, api.ErrFew} {
		_, e := guard.Call(func() int { core.NeedArgs(params, 1); return 0 })
		if e != want {
			t.Error(params, e)
		}
	}
}
