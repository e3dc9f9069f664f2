package print_test

import (
	"strings"
	"testing"

	"caracole/api"
	"caracole/print"
	"caracole/sample"
)

func TestRead(t *testing.T) {
	abc := list(nothing(), sym("a"), sym("b"), sym("c"))
	for _, x := range []struct {
		text string
		want api.Datum
	}{
		{"(a . (b c))", abc}, {"'x", quoted(sym("x"))}, {"(a b c)", abc}, {"(a . (b . (c . ())))", abc}, {"(a b . (c))", abc}, {" ( a b;x\nc)\n; y", abc}, {"(a.(b.(c.())))", abc},
		{"()", nothing()}, {"( ;)\n )", nothing()}, {"#f", flag(0)}, {"#t", flag(1)}, {"0", num(0)}, {"-7", num(-7)}, {"999999999", num(api.NumMost)}, {"+5", sym("+5")}, {"-", sym("-")}, {`""`, str("")}, {`"a;(\"\\'"`, str(`a;("\'`)}, {`"` + strings.Repeat(`\"`, 60) + `"`, str(strings.Repeat(`"`, 60))},
		{"#()", vec()}, {"#( 1 #(2) (3))", vec(num(1), vec(num(2)), list(nothing(), num(3)))}, {"(a . b)", pair(sym("a"), sym("b"))}, {"(a b . #(c))", list(vec(sym("c")), sym("a"), sym("b"))}, {"(() . ())", list(nothing(), nothing())},
		{"' x", quoted(sym("x"))}, {"'()", quoted(nothing())}, {"''a", quoted(quoted(sym("a")))}, {"'(a . 'b)", quoted(pair(sym("a"), quoted(sym("b"))))}, {"(quote x)", quoted(sym("x"))}, {"(a quote x)", pair(sym("a"), quoted(sym("x")))}, {"(a . 'x)", pair(sym("a"), quoted(sym("x")))}, {"(quote . x)", pair(sym("quote"), sym("x"))}, {"'quote", quoted(sym("quote"))}, {"('a 'b)", list(nothing(), quoted(sym("a")), quoted(sym("b")))}, {"#('a)", vec(quoted(sym("a")))}, {`(1"a"#t'b.#f)`, list(flag(0), num(1), str("a"), flag(1), quoted(sym("b")))},
	} {
		if d, at, e := print.Read(x.text); !same(d, x.want) || at != 0 || e != api.OK {
			t.Errorf("%q: %s %d %v", x.text, plain(d), at, e)
		}
		if l, at, e := print.ReadAll(x.text + "\n" + x.text); !sameAll(l, []api.Datum{x.want, x.want}) || at != 0 || e != api.OK {
			t.Errorf("%q: %s %d %v", x.text, sample.ShowAll(l), at, e)
		}
	}
}

func TestReadAll(t *testing.T) {
	for _, x := range []struct{ text, want string }{
		{"1 (2)", "1 (2)"}, {"", ""}, {" ; nothing\n", ""}, {"()()#()", "() () #()"}, {`"a""b"1`, `"a" "b" 1`}, {"#t#f", "#t #f"}, {"'a'b", "(quote a) (quote b)"}, {"a;b", "a"},
	} {
		l, at, e := print.ReadAll(x.text)
		if sample.ShowAll(l) != x.want || at != 0 || e != api.OK {
			t.Errorf("%q: %s %d %v", x.text, sample.ShowAll(l), at, e)
		}
	}
}

// TestReadPlaces has texts that are none of one datum, and the place in them.
func TestReadPlaces(t *testing.T) {
	long := `"` + strings.Repeat("x", 61) + `"`
	for _, x := range []struct {
		text    string
		at, all int // for Read, for ReadAll: -1 if it is none
	}{
		{"(a . b c)", 7, 7}, {"(1", 2, 2}, {"007", 0, 0}, {`a"b"`, 1, -1}, {"1 )", 2, 2},
		{"", 0, -1}, {"  ", 2, -1}, {"; a", 3, -1}, {"(a ; b", 6, 6}, {"(a\n\n", 4, 4}, {"'", 1, 1}, {"''", 2, 2}, {"(", 1, 1}, {"#(", 2, 2}, {"#(a", 3, 3}, {"(a .", 4, 4}, {"(a . b", 6, 6}, {"(a . b ", 7, 7}, {"((a)", 4, 4}, {"(a . (b)", 8, 8},
		{")", 0, 0}, {" )", 1, 1}, {".", 0, 0}, {"a .", 2, 2}, {"a b", 2, -1}, {"a )", 2, 2}, {"() ()", 3, -1}, {"a b )", 2, 4}, {"(a))", 3, 3},
		{"(. a)", 1, 1}, {"(a . )", 5, 5}, {"(a . . b)", 5, 5}, {"(a . b . c)", 7, 7}, {"(a .. b)", 4, 4}, {"(a . b 'c)", 7, 7}, {"(a . b (", 7, 7}, {"#(a . b)", 4, 4}, {"#(. a)", 2, 2}, {"(')", 2, 2}, {"('. a)", 2, 2}, {"#(')", 3, 3}, {"'.", 1, 1}, {"(a . ')", 6, 6},
		{"#0=a", 0, 0}, {"(a #0#)", 3, 3}, {"#1#", 0, 0}, {"'#0=a", 1, 1}, {"(a . #0=b)", 5, 5},
		{"(a A", 3, 3}, {") A", 0, 0}, {"a A", 2, 2}, {`(a "b`, 3, 3}, {`(a "\b")`, 3, 3}, {"(#ff)", 1, 1}, {"(a 1x)", 3, 3}, {"(a . b 1x)", 7, 7}, {"(1000000000)", 1, 1}, {"#(a é)", 4, 4},
		{long, 0, 0}, {"(a " + long + ")", 3, 3}, {"(a " + long + " A", 3, 3}, {"(a ) " + long, 5, 5}, {"(A " + long, 1, 1}, {"a " + long, 2, 2}, {"(a . " + long + ")", 5, 5},
		{strings.Repeat("'", 5000), 5000, 5000}, {strings.Repeat("(", 8000), 8000, 8000}, {strings.Repeat("(", 4000) + strings.Repeat(")", 3999) + "A", 7999, 7999}, {strings.Repeat("#(", 4000), 8000, 8000},
	} {
		if d, at, e := print.Read(x.text); !same(d, nothing()) || at != x.at || e != api.ErrForm {
			t.Errorf("%.20q: %s %d %v want %d", x.text, plain(d), at, e, x.at)
		}
		l, at, e := print.ReadAll(x.text)
		if x.all < 0 && e != api.OK || x.all >= 0 && (len(l) > 0 || at != x.all || e != api.ErrForm) {
			t.Errorf("%.20q: %s %d %v want %d", x.text, sample.ShowAll(l), at, e, x.all)
		}
	}
}

// TestReadLarge: a datum with too many pieces is no error of the form, and comes behind all of these.
func TestReadLarge(t *testing.T) {
	zeros := func(n int) string { return "(" + strings.Repeat("0 ", n) + ")" }
	wide := func(n int) string { return "#(" + strings.Repeat("0 ", n) + ")" }
	for _, x := range []struct {
		text string
		want api.Errno
	}{
		{zeros(999), api.OK}, {zeros(1000), api.ErrLarge}, {wide(1999), api.OK}, {wide(2000), api.ErrLarge}, {strings.Repeat("'", 499) + "a", api.OK}, {strings.Repeat("'", 500) + "a", api.ErrLarge}, {strings.Repeat("'", 7999) + "a", api.ErrLarge},
		{strings.Repeat("(", 1000) + strings.Repeat(")", 1000), api.OK}, {strings.Repeat("(", 1001) + strings.Repeat(")", 1001), api.ErrLarge}, {strings.Repeat("(", 4000) + strings.Repeat(")", 4000), api.ErrLarge}, {strings.Repeat("#(", 2000) + strings.Repeat(")", 2000), api.OK}, {strings.Repeat("#(", 2001) + strings.Repeat(")", 2001), api.ErrLarge},
		{wide(1998)[:3997] + "(0 . 0))", api.ErrLarge}, {wide(1996)[:3994] + "(0 . 0))", api.OK},
	} {
		d, at, e := print.Read(x.text)
		l, place, f := print.ReadAll("1 " + x.text + " 2")
		if at != 0 || e != x.want || place != 0 || f != x.want || e != api.OK && (!same(d, nothing()) || len(l) > 0) {
			t.Errorf("%.20q: %d %v %d %v", x.text, at, e, place, f)
		}
		if _, at, e := print.Read(x.text + ")"); at != len(x.text) && len(x.text) < api.PrintText || e == api.OK {
			t.Errorf("%.20q: %d %v", x.text, at, e)
		}
	}
	half := wide(1500)
	if l, at, e := print.ReadAll(half + half); len(l) != 2 || at != 0 || e != api.OK {
		t.Error(len(l), at, e)
	}
}

// dataOf are all texts of data of just so many tokens, made by the rules of the chapter.
func dataOf(n int) []string {
	if n == 1 {
		return []string{"a"}
	}
	var out []string
	for _, d := range upTo(n - 1) {
		out = append(out, "' "+d)
	}
	for _, l := range rows(n-2, 0) {
		out = append(out, "#( "+l+")")
	}
	for _, l := range rows(n-2, 0) {
		out = append(out, "( "+l+")")
	}
	for k := 1; k < n-3; k++ {
		for _, l := range rows(k, 1) {
			for _, tail := range upTo(n - 3 - k) {
				out = append(out, "( "+l+". "+tail+" )")
			}
		}
	}
	return out
}

func upTo(n int) []string {
	if n < 1 {
		return nil
	}
	return dataOf(n)
}

// rows are all texts of at least so many data that have n tokens together, each with a space behind it.
func rows(n, least int) []string {
	var out []string
	if n == 0 && least <= 0 {
		out = append(out, "")
	}
	for k := 1; k <= n; k++ {
		for _, d := range upTo(k) {
			for _, l := range rows(n-k, least-1) {
				out = append(out, d+" "+l)
			}
		}
	}
	return out
}

// sequences are all texts of n words.
func sequences(n int, words ...string) []string {
	out := []string{""}
	for range n {
		var longer []string
		for _, s := range out {
			for _, w := range words {
				longer = append(longer, strings.TrimPrefix(s+" "+w, " "))
			}
		}
		out = longer
	}
	return out
}

// TestReadAllTexts: of all texts of up to six tokens just those are read that the rules make.
func TestReadAllTexts(t *testing.T) {
	for n := 1; n <= 6; n++ {
		made := map[string]bool{}
		for _, text := range dataOf(n) {
			made[text] = true
		}
		for _, text := range sequences(n, "(", ")", "'", ".", "#(", "a") {
			if _, _, e := print.Read(text); (e == api.OK) != made[text] || e != api.OK && e != api.ErrForm {
				t.Error(text, e)
			}
		}
	}
}

// finished says whether a text that begins so is read with some ending.
func finished(text string, read func(string) api.Errno) bool {
	for _, ending := range []string{"", " a"} {
		for range 8 {
			if read(text+ending) == api.OK {
				return true
			}
			ending += " )"
		}
	}
	return false
}

// TestFirstPlace: what is in front of the place of an error can be the beginning of a text, but not with the token there.
func TestFirstPlace(t *testing.T) {
	readers := map[string]func(string) (int, api.Errno){
		"Read":      func(s string) (int, api.Errno) { _, at, e := print.Read(s); return at, e },
		"ReadAll":   func(s string) (int, api.Errno) { _, at, e := print.ReadAll(s); return at, e },
		"ReadGraph": func(s string) (int, api.Errno) { _, at, e := print.ReadGraph(s); return at, e },
	}
	texts := append(sequences(4, "(", ")", "'", ".", "#(", "a", "#0=", "#0#"), sequences(5, "(", ")", "'", ".", "a")...)
	for name, read := range readers {
		known := map[string]bool{}
		can := func(text string) bool {
			ok, is := known[text]
			if !is {
				ok = finished(text, func(s string) api.Errno { _, e := read(s); return e })
				known[text] = ok
			}
			return ok
		}
		for _, text := range texts {
			at, e := read(text)
			if e == api.OK {
				continue
			}
			if e != api.ErrForm || !can(strings.TrimSpace(text[:at])) {
				t.Error(name, text, at, e)
			}
			token, _, _ := strings.Cut(text[at:], " ")
			if token != "" && can(text[:at]+token) {
				t.Error(name, text, at, e)
			}
			if (at == len(text)) != can(text) {
				t.Error(name, text, at, e)
			}
		}
	}
}
