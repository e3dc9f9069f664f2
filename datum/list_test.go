package datum_test

import (
	"slices"
	"testing"

	"caracole/api"
	"caracole/datum"
)

// noLists are data that are no lists, some of which begin like one.
func noLists() []api.Datum {
	return readAll("1", "#f", "a", `"s"`, "#()", "#(1)", "(1 . 2)", "(1 2 . a)", "((1) . #())", "(() . #f)")
}

func TestToList(t *testing.T) {
	for _, x := range []struct {
		d    string
		want []string
	}{{"()", nil}, {"(1)", []string{"1"}}, {`(a 1 (b "s"))`, []string{"a", "1", `(b "s")`}}, {"(() (1 . 2) #(3))", []string{"()", "(1 . 2)", "#(3)"}}} {
		l, e := datum.ToList(read(x.d))
		if e != api.OK || !slices.EqualFunc(l, readAll(x.want...), same) {
			t.Error(x.d, showAll(l), e)
		}
	}
	for _, d := range noLists() {
		if l, e := datum.ToList(d); len(l) > 0 || e != api.ErrKind {
			t.Error(show(d), l, e)
		}
	}
}

func TestFromList(t *testing.T) {
	for _, x := range []struct {
		l    []string
		want string
	}{{nil, "()"}, {[]string{"1", "()"}, "(1 ())"}, {[]string{"(1 . 2)", "#(a)", "#t"}, "((1 . 2) #(a) #t)"}} {
		if d, e := datum.FromList(readAll(x.l...)); !same(d, read(x.want)) || e != api.OK {
			t.Error(x.l, show(d), e)
		}
	}
	for i, x := range []struct {
		l    []api.Datum
		want api.Errno
	}{
		{slices.Repeat([]api.Datum{num(0)}, 999), api.OK}, {slices.Repeat([]api.Datum{num(0)}, 1000), api.ErrLarge},
		{[]api.Datum{wide(api.DatumSize - 3)}, api.OK}, {[]api.Datum{wide(api.DatumSize - 2)}, api.ErrLarge},
		{[]api.Datum{wide(1000), wide(1000)}, api.ErrLarge}, {[]api.Datum{wide(1000), wide(1000), sym("")}, api.ErrName},
		{[]api.Datum{wide(api.DatumSize), sym("")}, api.ErrLarge}, {[]api.Datum{sym(""), wide(api.DatumSize)}, api.ErrName},
		{slices.Repeat([]api.Datum{wide(1999)}, 1000), api.ErrLarge},
	} {
		d, e := datum.FromList(x.l)
		if e != x.want || e != api.OK && !same(d, api.Datum{}) {
			t.Error(i, e, "want", x.want)
		}
	}
}

func TestAppend(t *testing.T) {
	for _, x := range []struct{ a, b, want string }{
		{`(a 1 (b "s"))`, "(2)", `(a 1 (b "s") 2)`}, {"()", "5", "5"}, {"(1 2)", "3", "(1 2 . 3)"}, {"(1)", "()", "(1)"}, {"((1))", "#()", "((1) . #())"}, {"(1)", "(2 . 3)", "(1 2 . 3)"}, {"()", "()", "()"},
	} {
		if d, e := datum.Append(read(x.a), read(x.b)); !same(d, read(x.want)) || e != api.OK {
			t.Error(x.a, x.b, show(d), e)
		}
	}
	for _, d := range noLists() {
		if got, e := datum.Append(d, num(1)); !same(got, api.Datum{}) || e != api.ErrKind {
			t.Error(show(d), got, e)
		}
		if _, e := datum.Append(d, wide(api.DatumSize-1)); e != api.ErrKind { // also if the result would be too large
			t.Error(show(d), e)
		}
	}
	for i, x := range []struct {
		a, b api.Datum
		want api.Errno
	}{{zeros(500), zeros(499), api.OK}, {zeros(500), zeros(500), api.ErrLarge}, {zeros(2), wide(1995), api.OK}, {zeros(2), wide(1996), api.ErrLarge}, {api.Datum{}, wide(1999), api.OK}} {
		if _, e := datum.Append(x.a, x.b); e != x.want {
			t.Error(i, e, "want", x.want)
		}
	}
}

func TestTurn(t *testing.T) {
	for _, x := range []struct{ d, want string }{{`(a 1 (b "s"))`, `((b "s") 1 a)`}, {"()", "()"}, {"((1 2))", "((1 2))"}, {"(1 (2 3) #(4 5))", "(#(4 5) (2 3) 1)"}} {
		if d, e := datum.Turn(read(x.d)); !same(d, read(x.want)) || e != api.OK {
			t.Error(x.d, show(d), e)
		}
	}
	for _, d := range noLists() {
		if got, e := datum.Turn(d); !same(got, api.Datum{}) || e != api.ErrKind {
			t.Error(show(d), got, e)
		}
	}
	if d, e := datum.Turn(zeros(999)); !same(d, zeros(999)) || e != api.OK {
		t.Error(e)
	}
}

// TestListLaws is P1.7.
func TestListLaws(t *testing.T) {
	r := newRandom(5)
	must := func(d api.Datum, e api.Errno) api.Datum {
		if e != api.OK {
			t.Error(e)
		}
		return d
	}
	for range 200 {
		a, b, c := r.List(2), r.List(2), r.Datum(2)
		l, _ := datum.ToList(a)
		m, _ := datum.ToList(b)
		ab := must(datum.Append(a, b))
		both, _ := datum.ToList(ab)
		if !same(must(datum.FromList(l)), a) || !slices.EqualFunc(both, slices.Concat(l, m), same) {
			t.Error(show(a), show(b), show(ab))
		}
		if !same(must(datum.Append(ab, c)), must(datum.Append(a, must(datum.Append(b, c))))) {
			t.Error(show(a), show(b), show(c))
		}
		ta, tb := must(datum.Turn(a)), must(datum.Turn(b))
		if !same(must(datum.Turn(ta)), a) || !same(must(datum.Turn(ab)), must(datum.Append(tb, ta))) {
			t.Error(show(a), show(b), show(ta), show(tb))
		}
	}
	for range 100 {
		var l []api.Datum
		for range r.Below(5) {
			l = append(l, r.Datum(3))
		}
		back, e := datum.ToList(must(datum.FromList(l)))
		if e != api.OK || !slices.EqualFunc(back, l, same) {
			t.Error(showAll(l), showAll(back), e)
		}
	}
}
