package datum_test

import (
	"strings"
	"testing"

	"caracole/api"
	"caracole/datum"
)

// ordered are data in their order.
func ordered() []api.Datum {
	return append(readAll(
		"()", "#f", "#t", "-999999999", "-2", "-1", "0", "1", "10", "999999999",
		"*", "+", "-", "/", "<", "a", "a-", "a0", "aa", "ab", "b", "z"),
		str(""), str(" "), str("A"), str("AA"), str("B"), str("a"), str("~"),
		read("(() . z)"), read("(1 . 9)"), read("(1 1)"), read("(1 1 1)"), read("(1 2)"), read("(2)"), read("(2 . 0)"), read("((0) . 0)"), read("(#() . 0)"),
		read("#()"), read("#(())"), read("#(1)"), read("#(1 1)"), read("#(1 2)"), read("#(1 (1))"), read("#(2)"), read("#(2 0 0)"), read("#(#())"))
}

func TestCompareOrder(t *testing.T) {
	all := ordered()
	for i, a := range all {
		for k, b := range all {
			want := 0
			if i < k {
				want = -1
			}
			if i > k {
				want = 1
			}
			if c, e := datum.Compare(a, b); c != want || e != api.OK {
				t.Error(show(a), show(b), c, e, "want", want)
			}
		}
	}
}

func TestCompareExamples(t *testing.T) {
	for _, x := range []struct {
		a, b string
		want int
	}{{"a", "b", -1}, {"1", "a", -1}, {"(1 2)", "(1 3)", -1}, {"#(1)", "#(1 (1))", -1}, {"#f", "#t", -1}, {"(1 2)", "(1 2)", 0}, {"b", "a", 1}, {"(1 (2 . 1))", "(1 (2 . 0))", 1}} {
		if c, e := datum.Compare(read(x.a), read(x.b)); c != x.want || e != api.OK {
			t.Error(x.a, x.b, c, e, "want", x.want)
		}
	}
}

// TestCompareLaws is P1.6.
func TestCompareLaws(t *testing.T) {
	r := newRandom(2)
	var l []api.Datum
	for range 40 {
		l = append(l, r.Datum(3))
	}
	sign := func(a, b api.Datum) int {
		c, e := datum.Compare(a, b)
		if e != api.OK {
			t.Error(show(a), show(b), e)
		}
		return c
	}
	for _, a := range l {
		for _, b := range l {
			ab := sign(a, b)
			if ab != -sign(b, a) || (ab == 0) != same(a, b) {
				t.Error(show(a), show(b), ab)
			}
			for _, c := range l {
				if ab <= 0 && sign(b, c) <= 0 && sign(a, c) > 0 {
					t.Error(show(a), show(b), show(c))
				}
			}
		}
	}
}

func TestCompareLarge(t *testing.T) {
	a, b := deep(api.DatumSize), deep(api.DatumSize-1)
	if c, e := datum.Compare(a, b); c != 1 || e != api.OK {
		t.Error(c, e)
	}
	if c, e := datum.Compare(zeros(999), zeros(999)); c != 0 || e != api.OK {
		t.Error(c, e)
	}
	long := strings.Repeat("a", api.SymLong)
	if c, e := datum.Compare(sym(long[1:]), sym(long)); c != -1 || e != api.OK {
		t.Error(c, e)
	}
}

func TestSize(t *testing.T) {
	for _, x := range []struct {
		d             api.Datum
		pieces, depth int
	}{
		{read(`(a 1 (b "s"))`), 11, 6}, {read("#(1 (1))"), 5, 3}, {read("()"), 1, 1}, {read("#()"), 1, 1}, {read("(1 . 2)"), 3, 2},
		{read("#((1) ((2)) 3)"), 10, 4}, {read("#(1 1 1)"), 4, 2}, {deep(api.DatumSize), api.DatumSize, api.DatumSize}, {wide(api.DatumSize - 1), api.DatumSize, 2}, {zeros(999), 1999, 1000},
	} {
		if n, m, e := datum.Size(x.d); n != x.pieces || m != x.depth || e != api.OK {
			t.Error(show(x.d), n, m, e, "want", x.pieces, x.depth)
		}
	}
}

// TestSizeLaws is P1.12.
func TestSizeLaws(t *testing.T) {
	r := newRandom(3)
	for range 200 {
		d := r.Datum(4)
		pieces, depth := 1, 1
		for _, p := range d.Parts {
			n, m, _ := datum.Size(p)
			pieces += n
			depth = max(depth, m+1)
		}
		if n, m, e := datum.Size(d); n != pieces || m != depth || e != api.OK {
			t.Error(show(d), n, m, e, "want", pieces, depth)
		}
	}
}

func TestSymbols(t *testing.T) {
	for _, x := range []struct{ d, want string }{
		{`(a 1 (b "s"))`, "a b"}, {"(b a b)", "a b"}, {"()", ""}, {`"a"`, ""}, {"a", "a"}, {"#(z (y . x) #(x- x/ x) #t)", "x x- x/ y z"}, {"(a . b)", "a b"}, {`#(b "a" (b b . b))`, "b"},
	} {
		if l, e := datum.Symbols(read(x.d)); strings.Join(l, " ") != x.want || e != api.OK {
			t.Error(x.d, l, e, "want", x.want)
		}
	}
}

// TestSymbolLaws is P1.13.
func TestSymbolLaws(t *testing.T) {
	r := newRandom(4)
	for range 300 {
		d := r.Datum(4)
		got, e := datum.Symbols(d)
		want := map[string]bool{}
		if d.Kind == api.Sym {
			want[d.Text] = true
		}
		for _, p := range d.Parts {
			l, _ := datum.Symbols(p)
			for _, s := range l {
				want[s] = true
			}
		}
		if e != api.OK || len(got) != len(want) {
			t.Error(show(d), got, e)
		}
		for i, s := range got {
			paths, _ := datum.Find(d, sym(s))
			if !want[s] || len(paths) == 0 || i > 0 && got[i-1] >= s {
				t.Error(show(d), got, s)
			}
		}
	}
}
