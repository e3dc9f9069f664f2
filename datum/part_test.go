package datum_test

import (
	"math"
	"slices"
	"testing"

	"caracole/api"
	"caracole/datum"
)

// noPaths lead to nothing in #(1 (1)).
func noPaths() [][]int {
	return [][]int{{2}, {-1}, {0, 0}, {1, 2}, {1, -1}, {1, 1, 0}, {1, 0, 0}, {math.MaxInt}, {math.MinInt}, {0, 0, 0, 0}, {2, 0}}
}

func TestAt(t *testing.T) {
	d, v := read(`(a 1 (b "s"))`), read("#(1 (1))")
	for _, x := range []struct {
		d    api.Datum
		path []int
		want string
	}{{d, nil, `(a 1 (b "s"))`}, {d, []int{}, `(a 1 (b "s"))`}, {d, []int{0}, "a"}, {d, []int{1}, `(1 (b "s"))`}, {d, []int{1, 0}, "1"}, {d, []int{1, 1, 0, 0}, "b"}, {d, []int{1, 1, 1}, "()"}, {v, []int{1}, "(1)"}, {v, []int{1, 0}, "1"}, {v, []int{1, 1}, "()"}} {
		if p, e := datum.At(x.d, x.path); !same(p, read(x.want)) || e != api.OK {
			t.Error(show(x.d), x.path, show(p), e)
		}
	}
	for _, path := range noPaths() {
		if p, e := datum.At(v, path); !same(p, api.Datum{}) || e != api.ErrRange {
			t.Error(path, show(p), e)
		}
	}
	if _, e := datum.At(d, []int{0, 0}); e != api.ErrRange {
		t.Error(e)
	}
	bottom := slices.Repeat([]int{0}, api.DatumSize-1)
	if p, e := datum.At(deep(api.DatumSize), bottom); !same(p, vec()) || e != api.OK {
		t.Error(show(p), e)
	}
	if _, e := datum.At(deep(api.DatumSize), append(bottom, 0)); e != api.ErrRange {
		t.Error(e)
	}
}

func TestPut(t *testing.T) {
	v := read("#(1 (1))")
	for _, x := range []struct {
		path    []int
		x, want string
	}{{[]int{1, 0}, "a", "#(1 (a))"}, {nil, "a", "a"}, {[]int{0}, "(2)", "#((2) (1))"}, {[]int{1}, "()", "#(1 ())"}, {[]int{1, 1}, "(2 3)", "#(1 (1 2 3))"}, {[]int{1, 1}, "#(1 (1))", "#(1 (1 . #(1 (1))))"}} {
		if d, e := datum.Put(v, x.path, read(x.x)); !same(d, read(x.want)) || e != api.OK {
			t.Error(x.path, x.x, show(d), e)
		}
	}
	for _, path := range noPaths() {
		if d, e := datum.Put(v, path, num(1)); !same(d, api.Datum{}) || e != api.ErrRange {
			t.Error(path, show(d), e)
		}
		if _, e := datum.Put(v, path, wide(api.DatumSize-1)); e != api.ErrRange { // also if the result would be too large
			t.Error(path, e)
		}
	}
	for i, x := range []struct {
		d, x api.Datum
		path []int
		want api.Errno
	}{
		{wide(2), wide(api.DatumSize - 3), []int{0}, api.OK}, {wide(2), wide(api.DatumSize - 2), []int{0}, api.ErrLarge},
		{wide(1999), num(1), []int{1998}, api.OK}, {wide(1999), vec(num(1)), []int{1998}, api.ErrLarge},
		{vec(wide(1000), num(1)), wide(1997), []int{0}, api.OK}, {wide(5), wide(1999), nil, api.OK},
	} {
		d, e := datum.Put(x.d, x.path, x.x)
		if e != x.want || e != api.OK && !same(d, api.Datum{}) || e == api.OK && datum.Check(d) != api.OK {
			t.Error(i, e, "want", x.want)
		}
	}
}

// TestPutLaws is P1.8.
func TestPutLaws(t *testing.T) {
	r := newRandom(6)
	begins := func(a, b []int) bool { return len(a) <= len(b) && slices.Equal(a, b[:len(a)]) }
	for range 150 {
		d, x := r.Datum(4), r.Datum(2)
		paths := allPaths(d)
		path := paths[r.Below(len(paths))]
		here, e := datum.At(d, path)
		if e != api.OK || !same(here, follow(d, path)) {
			t.Error(show(d), path, show(here), e)
		}
		if back, e := datum.Put(d, path, here); !same(back, d) || e != api.OK {
			t.Error(show(d), path, show(back), e)
		}
		put, e := datum.Put(d, path, x)
		if got, f := datum.At(put, path); !same(got, x) || e != api.OK || f != api.OK {
			t.Error(show(d), path, show(got), e, f)
		}
		for _, other := range paths {
			if got, e := datum.At(put, other); !begins(path, other) && !begins(other, path) && (!same(got, follow(d, other)) || e != api.OK) {
				t.Error(show(d), path, other, show(got), e)
			}
		}
	}
}

func TestFind(t *testing.T) {
	for _, x := range []struct {
		d, x string
		want [][]int
	}{
		{"#(1 (1))", "1", [][]int{{0}, {1, 0}}}, {"#(1 (1))", "()", [][]int{{1, 1}}}, {"#(1 (1))", "#(1 (1))", [][]int{{}}}, {"#(1 (1))", "2", nil}, {"#(1 (1))", `"1"`, nil},
		{"(1 2 1 2)", "(1 2)", [][]int{{1, 1}}}, {"(a (a) ((a)) . a)", "a", [][]int{{0}, {1, 0, 0}, {1, 1, 0, 0, 0}, {1, 1, 1}}}, {"()", "()", [][]int{{}}}, {"#(#() ())", "#()", [][]int{{0}}}, {"#((1 . 2) #(1 2))", "(1 . 2)", [][]int{{0}}},
	} {
		if l, e := datum.Find(read(x.d), read(x.x)); !samePaths(l, x.want) || e != api.OK {
			t.Error(x.d, x.x, l, e)
		}
	}
	if l, e := datum.Find(wide(1999), num(0)); len(l) != 1999 || e != api.OK {
		t.Error(len(l), e)
	}
}

// TestFindLaws is P1.9: Find has just the paths at which x is, and they are in order.
func TestFindLaws(t *testing.T) {
	r := newRandom(7)
	for range 200 {
		d := r.Datum(4)
		x := r.Part(d)
		var want [][]int
		for _, path := range allPaths(d) {
			if p, _ := datum.At(d, path); same(p, x) {
				want = append(want, path)
			}
		}
		got, e := datum.Find(d, x)
		if !samePaths(got, want) || e != api.OK || !slices.IsSortedFunc(got, slices.Compare) {
			t.Error(show(d), show(x), got, e, "want", want)
		}
	}
}

func TestReplace(t *testing.T) {
	for _, x := range []struct{ d, x, y, want string }{
		{"#(1 (1))", "1", "(1)", "#((1) ((1)))"}, {"#(1 (1))", "#(1 (1))", "a", "a"}, {"#(1 (1))", "7", "a", "#(1 (1))"}, {"(1 2)", "()", "(3)", "(1 2 3)"}, {"(1 2)", "(2)", "()", "(1)"},
		{"#((1) 1)", "(1)", "1", "#(1 1)"}, {"(a . a)", "a", "(a . a)", "((a . a) a . a)"}, {"()", "()", "#()", "#()"}, {`#(a "a")`, "a", "b", `#(b "a")`},
	} {
		if d, e := datum.Replace(read(x.d), read(x.x), read(x.y)); !same(d, read(x.want)) || e != api.OK {
			t.Error(x.d, x.x, x.y, show(d), e)
		}
	}
	for i, x := range []struct {
		d, x, y api.Datum
		want    api.Errno
	}{
		{wide(2), num(0), wide(998), api.OK}, {wide(2), num(0), wide(999), api.ErrLarge}, {wide(1999), num(0), vec(num(1)), api.ErrLarge}, {wide(1999), num(0), wide(1999), api.ErrLarge},
		{wide(1999), num(1), wide(1999), api.OK}, {wide(1999), num(0), num(1), api.OK}, {vec(wide(900), wide(900)), wide(900), num(1), api.OK}, {wide(3), wide(3), wide(1999), api.OK},
	} {
		d, e := datum.Replace(x.d, x.x, x.y)
		if e != x.want || e != api.OK && !same(d, api.Datum{}) || e == api.OK && datum.Check(d) != api.OK {
			t.Error(i, e, "want", x.want)
		}
	}
}

// TestReplaceLaws is P1.10.
func TestReplaceLaws(t *testing.T) {
	r := newRandom(8)
	size := func(d api.Datum) int {
		n, _, e := datum.Size(d)
		if e != api.OK {
			t.Error(show(d), e)
		}
		return n
	}
	found := func(d, x api.Datum) int {
		l, e := datum.Find(d, x)
		if e != api.OK {
			t.Error(show(d), show(x), e)
		}
		return len(l)
	}
	for range 300 {
		d, y := r.Datum(4), r.Datum(1)
		x := r.Part(d)
		got, e := datum.Replace(d, x, y)
		if e != api.OK || !same(got, naiveReplace(d, x, y)) {
			t.Error(show(d), show(x), show(y), show(got), e)
		}
		if found(y, x) == 0 && found(x, y) == 0 && found(got, x) != 0 {
			t.Error(show(d), show(x), show(y), show(got))
		}
		if size(got) != size(d)+found(d, x)*(size(y)-size(x)) {
			t.Error(show(d), show(x), show(y), show(got))
		}
		if got, e := datum.Replace(d, x, x); !same(got, d) || e != api.OK {
			t.Error(show(d), show(x), show(got), e)
		}
	}
}

func naiveReplace(d, x, y api.Datum) api.Datum {
	if same(d, x) {
		return y
	}
	out := api.Datum{Kind: d.Kind, Num: d.Num, Text: d.Text}
	for _, p := range d.Parts {
		out.Parts = append(out.Parts, naiveReplace(p, x, y))
	}
	return out
}

func TestDiffer(t *testing.T) {
	for _, x := range []struct {
		a, b string
		want []int
		e    api.Errno
	}{
		{`(a 1 (b "s"))`, "(a 2 (c))", []int{1, 0}, api.OK}, {`(a 1 (b "s"))`, `(a 1 (b "s"))`, nil, api.ErrNone}, {"1", "2", nil, api.OK}, {"1", "a", nil, api.OK}, {"()", "()", nil, api.ErrNone},
		{"(1)", "(1 2)", []int{1}, api.OK}, {"#(1)", "#(1 2)", nil, api.OK}, {"#(1 #() a)", "#(1 #(2) b)", []int{1}, api.OK}, {"#(a (b c))", `#(a (b "c"))`, []int{1, 1, 0}, api.OK}, {"#(1 2)", "(1 . 2)", nil, api.OK}, {"(a . #f)", "(a . #t)", []int{1}, api.OK},
	} {
		for range 2 {
			if path, e := datum.Differ(read(x.a), read(x.b)); !slices.Equal(path, x.want) || e != x.e {
				t.Error(x.a, x.b, path, e)
			}
			x.a, x.b = x.b, x.a
		}
	}
	if path, e := datum.Differ(deep(2000), deep(1999)); len(path) != 1998 || e != api.OK {
		t.Error(len(path), e)
	}
}

// TestDifferLaws is P1.11.
func TestDifferLaws(t *testing.T) {
	r := newRandom(9)
	alike := func(a, b api.Datum) bool {
		return a.Kind == b.Kind && a.Num == b.Num && a.Text == b.Text && len(a.Parts) == len(b.Parts)
	}
	for range 300 {
		a := r.Datum(4)
		paths := allPaths(a)
		b, _ := datum.Put(a, paths[r.Below(len(paths))], r.Datum(1))
		c, _ := datum.Compare(a, b)
		first, e := datum.Differ(a, b)
		if (e == api.ErrNone) != (c == 0) || e != api.OK && (e != api.ErrNone || len(first) > 0) {
			t.Error(show(a), show(b), first, e)
		}
		if e != api.OK {
			continue
		}
		if alike(follow(a, first), follow(b, first)) {
			t.Error(show(a), show(b), first)
		}
		for _, path := range paths {
			if slices.Compare(path, first) < 0 && !alike(follow(a, path), follow(b, path)) {
				t.Error(show(a), show(b), first, path)
			}
		}
	}
}
