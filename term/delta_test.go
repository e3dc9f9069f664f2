package term_test

import (
	"slices"
	"strings"
	"testing"

	"caracole/api"
	"caracole/sample"
	"caracole/term"
)

func TestDelta(t *testing.T) {
	for _, x := range []struct{ call, want string }{
		{"(+ 1 2)", "3"}, {"(- 1 2)", "-1"}, {"(* -3 4)", "-12"}, {"(quo 7 2)", "3"}, {"(quo 7 -2)", "-3"}, {"(quo -7 -2)", "3"}, {"(quo 1 5)", "0"}, {"(rem 7 2)", "1"}, {"(rem 7 -2)", "1"}, {"(rem -7 -2)", "-1"}, {"(rem -6 2)", "0"}, {"(quo 0 -5)", "0"},
		{"(< 1 2)", "#t"}, {"(< 2 2)", "#f"}, {"(< 3 2)", "#f"}, {"(< -3 -2)", "#t"},
		{"(+ 999999999 0)", "999999999"}, {"(+ 999999998 1)", "999999999"}, {"(- -999999998 1)", "-999999999"}, {"(* 999999999 -1)", "-999999999"}, {"(quo -999999999 -1)", "999999999"},
		{"(+ 999999999 1)", "error 8"}, {"(- -999999999 1)", "error 8"}, {"(* 999999999 999999999)", "error 8"}, {"(* -500000000 2)", "error 8"}, {"(* 31623 31623)", "error 8"}, {"(* 31622 31622)", "999950884"},
		{"(quo 1 0)", "error 7"}, {"(rem 0 0)", "error 7"}, {"(quo a 0)", "error 4"}, {"(rem 1 a)", "error 4"}, {"(+ () 1)", "error 4"}, {"(- 1 #f)", "error 4"}, {"(* (1) 1)", "error 4"}, {`(< 1 "2")`, "error 4"}, {"(< a b)", "error 4"}, {"(quo 0 #(0))", "error 4"},
		{"(eq 1 1)", "#t"}, {"(eq 1 2)", "#f"}, {"(eq (1 #(a)) (1 #(a)))", "#t"}, {"(eq (1 #(a)) (1 #(b)))", "#f"}, {"(eq () #f)", "#f"}, {`(eq a "a")`, "#f"}, {"(eq #() ())", "#f"}, {"(eq 0 #f)", "#f"}, {"(eq (1) (1 1))", "#f"}, {"(eq #(1) (1))", "#f"},
		{"(cons 1 2)", "(1 . 2)"}, {"(cons (1) (2))", "((1) 2)"}, {"(cons () ())", "(())"}, {"(car (1 2))", "1"}, {"(cdr (1 2))", "(2)"}, {"(car ((a) . b))", "(a)"}, {"(cdr (1 . 2))", "2"},
		{"(car ())", "error 4"}, {"(cdr ())", "error 4"}, {"(car #(1))", "error 4"}, {"(cdr 5)", "error 4"}, {"(car a)", "error 4"},
		{"(not #f)", "#t"}, {"(not #t)", "#f"}, {"(not 0)", "#f"}, {"(not ())", "#f"}, {`(not "")`, "#f"}, {"(not f)", "#f"},
		{"(fail 1)", "error 1"}, {"(fail 16)", "error 16"}, {"(fail 12)", "error 12"}, {"(fail 0)", "error 9"}, {"(fail 17)", "error 9"}, {"(fail -1)", "error 9"}, {"(fail a)", "error 4"}, {"(fail ())", "error 4"}, {"(fail (1))", "error 4"},
		{`(chars "")`, "()"}, {`(chars "aZ~!")`, "(97 90 126 33)"}, {"(chars a)", "error 4"}, {"(chars (97))", "error 4"},
		{"(string ())", `""`}, {"(string (32 126 65))", `" ~A"`}, {"(string (97 . 98))", "error 4"}, {"(string 97)", "error 4"}, {"(string (97 a))", "error 4"}, {"(string (200 a))", "error 4"}, {"(string (97 #(1) . 5))", "error 4"}, {`(string "a")`, "error 4"}, {"(string #(97))", "error 4"}, {"(string (31))", "error 9"}, {"(string (97 127))", "error 9"}, {"(string (-1))", "error 9"}, {"(string (353))", "error 9"},
		{"(name abc)", `"abc"`}, {"(name if)", `"if"`}, {`(name "a")`, "error 4"}, {"(name 1)", "error 4"},
		{`(symbol "abc")`, "abc"}, {`(symbol "car")`, "car"}, {`(symbol "-")`, "-"}, {`(symbol "+1")`, "+1"}, {`(symbol "")`, "error 2"}, {`(symbol "1")`, "error 2"}, {`(symbol "-1")`, "error 2"}, {`(symbol "aB")`, "error 2"}, {"(symbol a)", "error 4"}, {"(symbol ())", "error 4"},
		{"(vector ())", "#()"}, {"(vector (1 (2) #(3)))", "#(1 (2) #(3))"}, {"(vector (1 . 2))", "error 4"}, {"(vector #(1))", "error 4"}, {"(vector 1)", "error 4"},
		{"(items #())", "()"}, {"(items #(1 (2)))", "(1 (2))"}, {"(items (1))", "error 4"}, {"(items ())", "error 4"}, {`(items "a")`, "error 4"},
	} {
		d := read(x.call)
		var args []api.Datum
		for l := d.Parts[1]; l.Kind == api.Pair; l = l.Parts[1] {
			args = append(args, l.Parts[0])
		}
		if got := toldData(term.Delta(d.Parts[0].Text, args)); got != x.want {
			t.Error(x.call, got, "want", x.want)
		}
	}
}

func TestDeltaKinds(t *testing.T) {
	for op, kind := range map[string]int{"null?": api.Nil, "bool?": api.Bool, "num?": api.Num, "sym?": api.Sym, "str?": api.Str, "pair?": api.Pair, "vec?": api.Vec, "fn?": -1} {
		for _, s := range []string{"()", "#f", "#t", "0", "a", `""`, "(1)", "(1 . 2)", "#()", "#(fn)", "function"} {
			d := read(s)
			want := "#f"
			if d.Kind == kind {
				want = "#t"
			}
			if got := toldData(term.Delta(op, []api.Datum{d})); got != want {
				t.Error(op, s, got)
			}
		}
	}
}

func TestDeltaLarge(t *testing.T) {
	z := strings.Repeat("z", 60)
	bytes := func(n, b int) api.Datum { return list(slices.Repeat([]api.Datum{num(b)}, n)...) }
	for i, x := range []struct {
		op   string
		args []api.Datum
		want api.Errno
	}{
		{"cons", []api.Datum{sample.Wide(998), sample.Wide(999)}, api.OK}, {"cons", []api.Datum{sample.Wide(999), sample.Wide(999)}, api.ErrLarge}, {"cons", []api.Datum{sample.Wide(1999), {}}, api.ErrLarge}, {"cons", []api.Datum{sample.Wide(1997), {}}, api.OK}, {"cons", []api.Datum{{}, sample.Wide(1999)}, api.ErrLarge},
		{"items", []api.Datum{sample.Wide(999)}, api.OK}, {"items", []api.Datum{sample.Wide(1000)}, api.ErrLarge}, {"items", []api.Datum{sample.Wide(1999)}, api.ErrLarge},
		{"vector", []api.Datum{sample.Zeros(999)}, api.OK}, {"car", []api.Datum{pair(sample.Wide(1996), num(1))}, api.OK}, {"eq", []api.Datum{sample.Wide(1999), sample.Wide(1999)}, api.OK},
		{"chars", []api.Datum{str(z)}, api.OK}, {"string", []api.Datum{bytes(60, 'z')}, api.OK}, {"string", []api.Datum{bytes(61, 'z')}, api.ErrLarge}, {"string", []api.Datum{bytes(61, 127)}, api.ErrRange}, {"string", []api.Datum{bytes(900, 'z')}, api.ErrLarge},
		{"symbol", []api.Datum{str(z[:20])}, api.OK}, {"symbol", []api.Datum{str(z[:21])}, api.ErrName},
	} {
		if d, e := term.Delta(x.op, x.args); e != x.want || e != api.OK && !sameData(d, api.Datum{}) {
			t.Error(i, x.op, show(d), e, "want", x.want)
		}
	}
}

// TestDeltaErrors: no operation, another number of arguments, the errors of these, and the operation's own ones, in this order.
func TestDeltaErrors(t *testing.T) {
	bad, worse := api.Datum{Kind: 9}, sym("1")
	for _, x := range []struct {
		op   string
		args []api.Datum
		want api.Errno
	}{
		{"", nil, api.ErrName}, {"if", []api.Datum{bad}, api.ErrName}, {"x", nil, api.ErrName}, {"quote", []api.Datum{num(1)}, api.ErrName}, {"emit", []api.Datum{num(1)}, api.ErrName},
		{"+", nil, api.ErrFew}, {"+", []api.Datum{bad}, api.ErrFew}, {"+", []api.Datum{bad, bad, bad}, api.ErrMany}, {"car", nil, api.ErrFew}, {"car", []api.Datum{worse, bad}, api.ErrMany}, {"fn?", []api.Datum{bad, bad}, api.ErrMany}, {"cons", []api.Datum{num(1)}, api.ErrFew},
		{"+", []api.Datum{bad, worse}, api.ErrKind}, {"+", []api.Datum{worse, bad}, api.ErrName}, {"+", []api.Datum{sym("a"), worse}, api.ErrName}, {"quo", []api.Datum{num(api.NumMost + 1), num(0)}, api.ErrValue}, {"car", []api.Datum{worse}, api.ErrName}, {"fail", []api.Datum{sample.Wide(2000)}, api.ErrLarge}, {"fn?", []api.Datum{{Kind: api.Pair}}, api.ErrForm}, {"symbol", []api.Datum{str("\n")}, api.ErrValue},
	} {
		if d, e := term.Delta(x.op, x.args); e != x.want || !sameData(d, api.Datum{}) {
			t.Error(x.op, show(d), e, "want", x.want)
		}
	}
}
