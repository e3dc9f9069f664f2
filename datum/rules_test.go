package datum_test

import (
	"slices"
	"testing"

	"caracole/api"
	"caracole/datum"
	"caracole/sample"
)

// call is a function of the package with one datum in the first place of its data, another one in all others, and all else so that it comes to nothing if the data are valid.
type call func(first, others api.Datum) api.Errno

// calls are the functions of one datum and more.
func calls() map[string]call {
	return map[string]call{
		"Check":    func(d, _ api.Datum) api.Errno { return datum.Check(d) },
		"Compare":  func(d, x api.Datum) api.Errno { c, e := datum.Compare(d, x); return zero(e, c == 0) },
		"Size":     func(d, _ api.Datum) api.Errno { n, m, e := datum.Size(d); return zero(e, n == 0 && m == 0) },
		"ToList":   func(d, _ api.Datum) api.Errno { l, e := datum.ToList(d); return zero(e, len(l) == 0) },
		"FromList": func(d, x api.Datum) api.Errno { return none(datum.FromList([]api.Datum{d, x})) },
		"Append":   func(d, x api.Datum) api.Errno { return none(datum.Append(d, x)) },
		"Turn":     func(d, _ api.Datum) api.Errno { return none(datum.Turn(d)) },
		"At":       func(d, _ api.Datum) api.Errno { return none(datum.At(d, []int{-1})) },
		"Put":      func(d, x api.Datum) api.Errno { return none(datum.Put(d, []int{-1}, x)) },
		"Find":     func(d, x api.Datum) api.Errno { l, e := datum.Find(d, x); return zero(e, len(l) == 0) },
		"Replace":  func(d, x api.Datum) api.Errno { return none(datum.Replace(d, x, x)) },
		"Differ":   func(d, x api.Datum) api.Errno { p, e := datum.Differ(d, x); return zero(e, len(p) == 0) },
		"Symbols":  func(d, _ api.Datum) api.Errno { l, e := datum.Symbols(d); return zero(e, len(l) == 0) },
	}
}

// later are calls in which the datum in question comes behind valid ones, with a worse one behind it where there is room.
func later() map[string]func(d api.Datum) api.Errno {
	one, worse := num(1), api.Datum{Kind: 99}
	return map[string]func(d api.Datum) api.Errno{
		"Compare":   func(d api.Datum) api.Errno { c, e := datum.Compare(one, d); return zero(e, c == 0) },
		"FromList":  func(d api.Datum) api.Errno { return none(datum.FromList([]api.Datum{one, d, worse})) },
		"Append":    func(d api.Datum) api.Errno { return none(datum.Append(one, d)) },
		"Put":       func(d api.Datum) api.Errno { return none(datum.Put(one, []int{0}, d)) },
		"Find":      func(d api.Datum) api.Errno { l, e := datum.Find(one, d); return zero(e, len(l) == 0) },
		"Replace x": func(d api.Datum) api.Errno { return none(datum.Replace(one, d, worse)) },
		"Replace y": func(d api.Datum) api.Errno { return none(datum.Replace(one, one, d)) },
		"Differ":    func(d api.Datum) api.Errno { p, e := datum.Differ(one, d); return zero(e, len(p) == 0) },
	}
}

// zero is the error of a call; it is -1 if there is one, and the other results are no zero values (R3).
func zero(e api.Errno, isZero bool) api.Errno {
	if e != api.OK && !isZero {
		return -1
	}
	return e
}

func none(d api.Datum, e api.Errno) api.Errno { return zero(e, same(d, api.Datum{})) }

// TestErrorsOfData: all functions return the error of their first datum, then that of the second one, and so on; the own errors come behind them, and with each there are zero values (R1, R3).
func TestErrorsOfData(t *testing.T) {
	for _, f := range faults() {
		for name, call := range calls() {
			if e := call(f.d, api.Datum{Kind: 99}); e != f.want {
				t.Error(name, f.name, e, "want", f.want)
			}
		}
		for name, call := range later() {
			if e := call(f.d); e != f.want {
				t.Error(name, "later", f.name, e, "want", f.want)
			}
		}
	}
}

// blocks are all slices of parts that a datum consists of, by their first places in memory.
func blocks(t *testing.T, seen map[*api.Datum]bool, all ...api.Datum) {
	t.Helper()
	for _, d := range all {
		if cap(d.Parts) == 0 {
			continue
		}
		if p := &d.Parts[:1][0]; seen[p] {
			t.Error("memory is shared at", show(d))
		} else {
			seen[p] = true
		}
		blocks(t, seen, d.Parts...)
	}
}

// apart fails if results share memory with each other or with the arguments.
func apart(t *testing.T, args, results []api.Datum) {
	t.Helper()
	seen := map[*api.Datum]bool{}
	blocks(t, seen, args...)
	blocks(t, seen, results...)
}

// TestMemory: no result shares memory with an argument or another result, nor with itself (R4).
func TestMemory(t *testing.T) {
	r := newRandom(10)
	for range 50 {
		a, b := r.List(3), r.Datum(3)
		x := r.Part(b)
		elements, _ := datum.ToList(a)
		apart(t, []api.Datum{a}, elements)
		joined, _ := datum.Append(a, b)
		turned, _ := datum.Turn(a)
		listed, _ := datum.FromList([]api.Datum{a, b})
		apart(t, []api.Datum{a, b}, []api.Datum{joined, turned, listed})
		for _, path := range allPaths(b) {
			at, _ := datum.At(b, path)
			put, _ := datum.Put(b, path, a)
			apart(t, []api.Datum{a, b}, []api.Datum{at, put})
		}
		y := vec(num(5), vec(num(6)))
		replaced, _ := datum.Replace(b, sample.Copy(x), y)
		kept, _ := datum.Replace(b, sym("nowhere"), y)
		apart(t, []api.Datum{b, y}, []api.Datum{replaced, kept})
	}
	many := vec(num(1), num(2))
	twice, e := datum.FromList([]api.Datum{many, many})
	if e != api.OK {
		t.Error(e)
	}
	apart(t, []api.Datum{many}, []api.Datum{twice})
	again, _ := datum.Replace(read("#(1 1 (1 . 1))"), num(1), many)
	apart(t, []api.Datum{many}, []api.Datum{again})
}

// TestPathsApart: paths can be appended to and changed without an effect on each other (R4).
func TestPathsApart(t *testing.T) {
	d := read("((1 1) (1 (1 1)) 1)")
	want, _ := datum.Find(d, num(1))
	got, _ := datum.Find(d, num(1))
	for i := range got {
		got[i] = append(got[i], 99)
		for k := range i {
			got[k][0] = -1
		}
		if len(want) != len(got) || !slices.Equal(got[i][:len(want[i])], want[i]) {
			t.Error(i, got[i], want[i])
		}
	}
}

// TestArgumentsStay: arguments are not changed, and calls with the same ones return the same (R2, R4).
func TestArgumentsStay(t *testing.T) {
	r := newRandom(11)
	for range 40 {
		a, b := r.List(3), r.Datum(3)
		x := r.Part(b)
		path := allPaths(b)[0]
		before := showAll([]api.Datum{a, b, x})
		for name, call := range calls() {
			if call(a, b) != call(a, b) || call(b, x) != call(b, x) {
				t.Error(name, before)
			}
		}
		datum.Replace(b, x, a)
		datum.Put(b, path, a)
		if got := showAll([]api.Datum{a, b, x}); got != before {
			t.Error(before, got)
		}
	}
	l := []api.Datum{num(2), num(1)}
	path := []int{1, 0}
	datum.FromList(l)
	datum.Put(read("#(1 (1))"), path, num(5))
	if showAll(l) != "2 1" || !slices.Equal(path, []int{1, 0}) {
		t.Error(l, path)
	}
}

// TestSpareMemory: what lies in memory behind a slice is neither seen nor written (R4).
func TestSpareMemory(t *testing.T) {
	store := []api.Datum{num(1), num(2), num(3), {Kind: 99}}
	d := vec(store[:2]...)
	d.Parts = store[:2]
	for name, call := range calls() {
		if e := call(d, num(1)); e == api.ErrKind && name != "ToList" && name != "Append" && name != "Turn" {
			t.Error(name, e)
		}
	}
	out, e := datum.Put(d, []int{0}, num(7))
	if e != api.OK || show(out) != "#(7 2)" || store[0].Num != 1 || store[2].Num != 3 || store[3].Kind != 99 {
		t.Error(show(out), e, store)
	}
	path := []int{1, 0, 5}
	if p, e := datum.At(read("#(1 (1))"), path[:2]); show(p) != "1" || e != api.OK || path[2] != 5 {
		t.Error(show(p), e)
	}
}

// TestEmptyAndNil: a nil slice and an empty one mean the same (R4).
func TestEmptyAndNil(t *testing.T) {
	a, b := api.Datum{Kind: api.Vec}, api.Datum{Kind: api.Vec, Parts: []api.Datum{}}
	if c, e := datum.Compare(a, b); c != 0 || e != api.OK {
		t.Error(c, e)
	}
	if _, e := datum.Differ(vec(a), vec(b)); e != api.ErrNone {
		t.Error(e)
	}
	if l, e := datum.Find(vec(a, b), b); len(l) != 2 || e != api.OK {
		t.Error(l, e)
	}
	if d, e := datum.FromList([]api.Datum{}); !same(d, api.Datum{}) || e != api.OK {
		t.Error(d, e)
	}
	if e := datum.Check(pair(sym("a"), api.Datum{Kind: api.Num, Parts: []api.Datum{}})); e != api.OK {
		t.Error(e)
	}
}

// TestAnyValue: functions return whatever the fields of a datum are (P1, R5).
func TestAnyValue(t *testing.T) {
	r := newRandom(12)
	for range 3000 {
		d, x := wild(r, 3), wild(r, 2)
		for name, call := range calls() {
			if e := call(d, x); e < api.OK || e > api.ErrStuck {
				t.Error(name, d, x, e)
			}
		}
		path := []int{r.Below(4) - 1, r.Below(4) - 1}
		if p, e := datum.At(d, path); e == api.OK && datum.Check(p) != api.OK {
			t.Error(d, path, p)
		}
		if p, e := datum.Put(d, path, x); e == api.OK && datum.Check(p) != api.OK {
			t.Error(d, path, p)
		}
	}
}

// wild makes a datum with any fields.
func wild(r *sample.Random, depth int) api.Datum {
	d := api.Datum{Kind: r.Below(9) - 1}
	if d.Kind < api.Pair && r.Below(4) > 0 {
		return r.Datum(0)
	}
	if r.Below(5) == 0 {
		d.Num = r.Below(5) - 2
	}
	if r.Below(5) == 0 {
		d.Text = []string{"a", "A", "1", "\n", ""}[r.Below(5)]
	}
	if depth > 0 {
		for range 2 + r.Below(3)/2 {
			d.Parts = append(d.Parts, wild(r, depth-1))
		}
	}
	return d
}
