package print_test

import (
	"slices"
	"strings"
	"testing"

	"caracole/api"
	"caracole/print"
	"caracole/sample"
)

func TestShow(t *testing.T) {
	for _, x := range []struct {
		d    api.Datum
		want string
	}{
		{exampleD(), `(a 1 (b "s"))`}, {list(nothing(), sym("quote"), pair(num(1), num(2))), "'(1 . 2)"}, {vec(flag(1), nothing()), "#(#t ())"}, {str(`q"\`), `"q\"\\"`},
		{list(nothing(), sym("a"), sym("quote"), sym("b")), "(a quote b)"}, {list(nothing(), sym("quote")), "(quote)"}, {list(nothing(), sym("quote"), sym("a"), sym("b")), "(quote a b)"},
		{nothing(), "()"}, {flag(0), "#f"}, {flag(1), "#t"}, {num(0), "0"}, {num(-5), "-5"}, {num(api.NumMost), "999999999"}, {num(-api.NumMost), "-999999999"}, {sym("?a-1"), "?a-1"}, {sym("quote"), "quote"},
		{str(""), `""`}, {str(" ; ' ( ~"), `" ; ' ( ~"`}, {str(`\\"`), `"\\\\\""`}, {vec(), "#()"}, {vec(vec()), "#(#())"},
		{pair(num(1), num(2)), "(1 . 2)"}, {pair(num(1), vec()), "(1 . #())"}, {pair(num(1), str("")), `(1 . "")`}, {list(num(3), num(1), num(2)), "(1 2 . 3)"}, {pair(nothing(), nothing()), "(())"}, {pair(exampleD(), exampleD()), `((a 1 (b "s")) a 1 (b "s"))`},
		{quoted(nothing()), "'()"}, {quoted(quoted(sym("a"))), "''a"}, {quoted(sym("quote")), "'quote"}, {quoted(vec()), "'#()"}, {pair(sym("a"), quoted(sym("b"))), "(a quote b)"}, {pair(quoted(sym("a")), sym("b")), "('a . b)"},
		{pair(sym("quote"), sym("a")), "(quote . a)"}, {list(sym("b"), sym("quote"), sym("a")), "(quote a . b)"}, {list(nothing(), str("quote"), sym("a")), `("quote" a)`}, {list(nothing(), quoted(sym("quote")), sym("a")), "('quote a)"}, {vec(sym("quote"), sym("a")), "#(quote a)"},
	} {
		if text, e := print.Show(x.d); text != x.want || e != api.OK {
			t.Error(text, e, "want", x.want)
		}
	}
	for i, d := range data(1, 1000) {
		if text, e := print.Show(d); text != flat(d) || e != api.OK {
			t.Error(i, text, e, "want", flat(d))
		}
	}
}

// large is a vector of strings that is shown with so many bytes, at least 8.
func large(bytes int) api.Datum {
	// Each string has three bytes more than its text, with the gap in front of it or behind the last one.
	left := bytes - 2
	var l []api.Datum
	for ; left > 69; left -= 63 {
		l = append(l, str(strings.Repeat("x", 60)))
	}
	half := (left - 6) / 2
	return vec(append(l, str(strings.Repeat("y", half)), str(strings.Repeat("z", left-6-half)))...)
}

// TestShowLarge: the longest text has PrintText bytes.
func TestShowLarge(t *testing.T) {
	for n := api.PrintText - 70; n < api.PrintText+70; n++ {
		d := large(n)
		want, length := api.OK, n
		if n > api.PrintText {
			want, length = api.ErrLarge, 0
		}
		if text, e := print.Show(d); len(text) != length || e != want {
			t.Error(n, len(text), e)
		}
	}
	for i, d := range []api.Datum{vec(slices.Repeat([]api.Datum{str(strings.Repeat(`"`, 60))}, 70)...), vec(slices.Repeat([]api.Datum{str(strings.Repeat(`\`, 60))}, 1900)...)} {
		if text, e := print.Show(d); text != "" || e != api.ErrLarge {
			t.Error(i, len(text), e)
		}
	}
	for i, d := range []api.Datum{sample.Deep(2000), sample.Wide(1999), sample.Zeros(999)} {
		if text, e := print.Show(d); text != flat(d) || e != api.OK {
			t.Error(i, len(text), e)
		}
	}
}

func TestShowAll(t *testing.T) {
	for i, x := range []struct {
		l    []api.Datum
		want string
	}{
		{[]api.Datum{num(1), sym("a")}, "1\na\n"}, {nil, ""}, {[]api.Datum{}, ""}, {[]api.Datum{nothing()}, "()\n"}, {[]api.Datum{exampleD(), quoted(num(1)), exampleD()}, "(a 1 (b \"s\"))\n'1\n(a 1 (b \"s\"))\n"},
		{slices.Repeat([]api.Datum{num(7)}, 4000), strings.Repeat("7\n", 4000)},
		{[]api.Datum{large(7998 - 70), large(70)}, flat(large(7998-70)) + "\n" + flat(large(70)) + "\n"}, {[]api.Datum{large(7999)}, flat(large(7999)) + "\n"},
	} {
		if text, e := print.ShowAll(x.l); text != x.want || e != api.OK {
			t.Error(i, text, e)
		}
	}
	half := large(3999)
	for i, l := range [][]api.Datum{slices.Repeat([]api.Datum{num(7)}, 4001), slices.Repeat([]api.Datum{num(7)}, 100000), {large(7999 - 70), large(70)}, {half, half, half}, {large(8000)}, {num(1), large(9000)}, {large(20000), num(1)}, slices.Repeat([]api.Datum{half}, 3000)} {
		if text, e := print.ShowAll(l); text != "" || e != api.ErrLarge {
			t.Error(i, len(text), e)
		}
	}
	for want, d := range faults() {
		for i, l := range [][]api.Datum{{d}, {d, {Kind: 99}}, {num(1), d, {Kind: 99}}, append(slices.Repeat([]api.Datum{num(7)}, 4001), d), {large(20000), d}} {
			if text, e := print.ShowAll(l); text != "" || e != want {
				t.Error(i, text, e, "want", want)
			}
		}
	}
	r := sample.NewRandom(2)
	for range 50 {
		l := someData(r, 4)
		want := ""
		for _, d := range l {
			want += flat(d) + "\n"
		}
		for range 3 {
			if text, e := print.ShowAll(l); text != want || e != api.OK {
				t.Error(text, e, "want", want)
			}
		}
	}
}

func TestPretty(t *testing.T) {
	d := exampleD()
	mixed := list(vec(sym("x"), sym("y")), sym("a"), quoted(list(vec(num(1), num(2), list(nothing(), sym("d"), str("s"))), sym("b"), sym("c"))))
	for _, x := range []struct {
		d     api.Datum
		width int
		want  []string
	}{
		{d, 7, []string{"(a", " 1", " (b", `  "s"))`}}, {d, 20, []string{`(a 1 (b "s"))`}},
		{d, 1, []string{"(a", " 1", " (b", `  "s"))`}}, {d, 8, []string{"(a", " 1", ` (b "s"))`}}, {d, 12, []string{"(a", " 1", ` (b "s"))`}}, {d, 13, []string{`(a 1 (b "s"))`}}, {d, 200, []string{`(a 1 (b "s"))`}},
		{sym("abc"), 1, []string{"abc"}}, {str("long one"), 1, []string{`"long one"`}}, {nothing(), 1, []string{"()"}}, {vec(), 1, []string{"#()"}}, {vec(nothing(), vec()), 6, []string{"#(()", "  #())"}},
		{quoted(list(nothing(), num(1), num(2))), 5, []string{"'(1", "  2)"}}, {quoted(list(nothing(), num(1), num(2))), 6, []string{"'(1 2)"}}, {quoted(sym("abc")), 2, []string{"'abc"}}, {quoted(quoted(vec(num(1), num(2)))), 7, []string{"''#(1", "    2)"}},
		{pair(num(1), num(2)), 6, []string{"(1", " . 2)"}}, {pair(num(1), num(2)), 7, []string{"(1 . 2)"}}, {pair(num(1), vec(num(2), num(3))), 8, []string{"(1", " . #(2", "     3))"}}, {pair(num(1), vec(num(2), num(3))), 9, []string{"(1", " . #(2 3))"}},
		{mixed, 10, []string{"(a", " '(b", "   c", "   . #(1", "       2", "       (d", `        "s")))`, " . #(x y))"}},
		{mixed, 20, []string{"(a", " '(b", "   c", `   . #(1 2 (d "s")))`, " . #(x y))"}},
		{list(nothing(), list(nothing(), list(nothing(), num(1), num(2)), num(3)), num(4)), 6, []string{"(((1", "   2)", "  3)", " 4)"}},
		{list(nothing(), list(nothing(), list(nothing(), num(1), num(2)), num(3)), num(4)), 7, []string{"(((1 2)", "  3)", " 4)"}},
		{list(nothing(), list(nothing(), list(nothing(), num(1), num(2)), num(3)), num(4)), 10, []string{"(((1 2) 3)", " 4)"}},
		{pair(sym("quote"), sym("a")), 4, []string{"(quote", " . a)"}}, {list(nothing(), sym("quote"), sym("a"), sym("b")), 4, []string{"(quote", " a", " b)"}},
	} {
		want := strings.Join(x.want, "\n")
		if text, e := print.Pretty(x.d, x.width); text != want || e != api.OK {
			t.Errorf("%d: %s %v want %s", x.width, text, e, want)
		}
	}
	for i, d := range data(3, 600) {
		for _, width := range []int{1, 2 + i%9, 11 + i%20, 40, 200} {
			if text, e := print.Pretty(d, width); text != laidOut(d, 0, width) || e != api.OK {
				t.Errorf("%d: %s %v want %s", width, text, e, laidOut(d, 0, width))
			}
		}
	}
}

func TestPrettyErrors(t *testing.T) {
	for _, width := range []int{0, -1, 201, 1 << 40, -1 << 63} {
		if text, e := print.Pretty(sample.Wide(1900), width); text != "" || e != api.ErrValue {
			t.Error(width, text, e)
		}
		for want, d := range faults() {
			if text, e := print.Pretty(d, width); text != "" || e != want {
				t.Error(width, text, e, "want", want)
			}
		}
		if text, e := print.Pretty(large(9000), width); text != "" || e != api.ErrValue {
			t.Error(width, text, e)
		}
	}
	// A list of n numbers has 2n + 1 bytes in one line, and one more for each but the first one in lines.
	for n := 995; n < 1000; n++ {
		d := sample.Zeros(n)
		if text, e := print.Pretty(d, 1); len(text) != 3*n || e != api.OK {
			t.Error(n, len(text), e)
		}
	}
	// A list of a list and 1, n deep: each 1 stands in a line of its own, one column further for each list around it.
	deep := nothing()
	for n := 1; n < 200; n++ {
		deep = list(nothing(), deep, num(1))
		length, want := n+2+n*(n+1)/2+3*n, api.OK
		if length > api.PrintText {
			length, want = 0, api.ErrLarge
		}
		if text, e := print.Pretty(deep, 1); len(text) != length || e != want {
			t.Error(n, len(text), e)
		}
	}
}

func TestErrorsOfData(t *testing.T) {
	for want, d := range faults() {
		text, e := print.Show(d)
		lines, f := print.Pretty(d, 5)
		if text != "" || e != want || lines != "" || f != want {
			t.Error(text, e, lines, f, "want", want)
		}
	}
}
