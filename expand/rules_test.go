package expand_test

import (
	"slices"
	"strings"
	"testing"

	"caracole/api"
	"caracole/datum"
	"caracole/expand"
	"caracole/sample"
	"caracole/term"
)

// memory is the places in memory where slices begin that belong to something.
type memory map[any]bool

func (m memory) data(t *testing.T, all ...api.Datum) {
	t.Helper()
	for _, d := range all {
		if cap(d.Parts) > 0 {
			m.slice(t, &d.Parts[:1][0])
		}
		m.data(t, d.Parts...)
	}
}

func (m memory) terms(t *testing.T, all ...api.Term) {
	t.Helper()
	for _, x := range all {
		if cap(x.Names) > 0 {
			m.slice(t, &x.Names[:1][0])
		}
		if cap(x.Args) > 0 {
			m.slice(t, &x.Args[:1][0])
		}
		m.data(t, x.Data)
		m.terms(t, x.Args...)
	}
}

func (m memory) names(t *testing.T, l []string) {
	t.Helper()
	if cap(l) > 0 {
		m.slice(t, &l[:1][0])
	}
}

func (m memory) slice(t *testing.T, first any) {
	t.Helper()
	if m[first] {
		t.Error("memory is shared")
	}
	m[first] = true
}

// TestMemory: no result shares memory with an argument, with another one, nor with itself (R4).
func TestMemory(t *testing.T) {
	t.Parallel()
	twice := read("(macro m (((?a) (f (quote ?a) (quote ?a) (quote (1 #(2)))))) (g (m (x #(y))) (m (x #(y))) (quote (3 . 4)) (fn (x y) x)))")
	for _, d := range append(programs(20, 300, 40), twice) {
		m := memory{}
		m.data(t, d)
		for range 2 {
			x, _, _ := expand.Expand(d, 40)
			y, _, _ := expand.Plain(d, 40)
			l, _ := expand.Uses(d, 40)
			p, _ := expand.Prelude(d)
			m.terms(t, x, y)
			m.names(t, l)
			m.data(t, p)
		}
	}
	// The memory of a list without elements is memory, too.
	hollow := api.Datum{Parts: make([]api.Datum, 0, 3)}
	for _, d := range []api.Datum{hollow, list(sym("quote"), hollow)} {
		x, _, _ := expand.Expand(d, 0)
		p, _ := expand.Prelude(d)
		m := memory{}
		m.data(t, d)
		m.terms(t, x)
		m.data(t, p)
	}
}

// everything is what all functions return for some arguments.
func everything(d api.Datum, most int) []string {
	return []string{told(expand.Expand(d, most)), told(expand.Plain(d, most)), toldNames(expand.Uses(d, most)), toldBool(expand.Captured(d, most)), toldDatum(expand.Prelude(d))}
}

// TestArgumentsStay: arguments are not changed, not even the memory behind them, and calls with the same ones return the same (R2, R4).
func TestArgumentsStay(t *testing.T) {
	t.Parallel()
	c := newChance(21)
	for i := range 300 {
		c.faults = i%3 == 0
		d := c.program()
		before := show(d)
		first := everything(d, i%20)
		again := everything(sample.Copy(d), i%20)
		if after := show(d); after != before || !slices.Equal(first, again) {
			t.Error(before, after, first, again)
		}
	}
	bad := api.Datum{Kind: 99}
	store := []api.Datum{sym("x"), num(2), bad}
	q := list(sym("quote"), api.Datum{Kind: api.Vec, Parts: store[:2]})
	got := everything(with(read(in("(macro m (((?a) (f ?a p1))) (m p1))")), q), 9)
	if got[0] != "(f (quote #(x 2)) (quote #(x 2))), 1" || got[0] != got[1] || store[0].Text != "x" || store[1].Num != 2 || store[2].Kind != 99 {
		t.Error(got, store)
	}
}

// TestEmptyAndNil: a nil slice and an empty one mean the same (R4).
func TestEmptyAndNil(t *testing.T) {
	t.Parallel()
	var hollow func(d api.Datum) api.Datum
	hollow = func(d api.Datum) api.Datum {
		parts := []api.Datum{}
		for _, p := range d.Parts {
			parts = append(parts, hollow(p))
		}
		d.Parts = parts
		return d
	}
	for _, d := range append(programs(22, 200, 40), read("(macro m ((#() 1) ((#() 1 . #()) (quote #()))) (m #() 1 . #()))")) {
		if got, want := everything(hollow(d), 40), everything(d, 40); !slices.Equal(got, want) {
			t.Error(show(d), got, want)
		}
	}
}

// wild makes a datum with any fields.
func wild(r *sample.Random, depth int) api.Datum {
	d := api.Datum{Kind: r.Below(9) - 1}
	if r.Below(5) == 0 {
		d.Num = r.Below(5) - 2
	}
	if d.Kind == api.Sym || r.Below(9) == 0 {
		d.Text = []string{"?a", "A", "etc", "\n", "?", "macro", "m", "let", "x"}[r.Below(9)]
	}
	if depth > 0 && (d.Kind > api.Str || r.Below(9) == 0) {
		for range 2 + r.Below(5)/4 {
			d.Parts = append(d.Parts, wild(r, depth-1))
		}
	}
	return d
}

// TestAnyValue: functions return whatever their arguments are, with zero values beside an error, and with valid ones otherwise (P1, R3, R5).
func TestAnyValue(t *testing.T) {
	t.Parallel()
	c := newChance(23)
	c.faults = true
	ring := vec(sym("x"), num(1))
	ring.Parts[1] = ring
	for i := range 1500 {
		d := wild(c.Random, 4)
		switch {
		case i%500 == 0:
			d = ring
		case i%2 == 0:
			d = c.program()
			paths := allPaths(d)
			d = put(d, paths[c.Below(len(paths))], wild(c.Random, 2))
		}
		most := c.Below(12) - 1
		x, n, e := expand.Expand(d, most)
		y, m, f := expand.Plain(d, most)
		l, g := expand.Uses(d, most)
		b, h := expand.Captured(d, most)
		p, k := expand.Prelude(d)
		zero(t, e, n == 0 && sample.SameTerm(x, api.Term{}))
		zero(t, f, m == 0 && sample.SameTerm(y, api.Term{}))
		zero(t, g, len(l) == 0)
		zero(t, h, !b)
		zero(t, k, same(p, api.Datum{}))
		if e != h || e != g && e != api.ErrLarge {
			t.Error(e, g, h)
		}
		if first := datum.Check(d); first != api.OK && (e != first || f != first || g != first || h != first || k != first) {
			t.Error(first, e, f, g, h, k)
		}
		if e == api.OK && term.Check(x) != api.OK || f == api.OK && term.Check(y) != api.OK || datum.Check(p) != api.OK {
			t.Error(sample.TermText(x), sample.TermText(y), show(p))
		}
	}
}

// zero fails if there is an error that there cannot be, or one beside something else than zero values.
func zero(t *testing.T, e api.Errno, is bool) {
	t.Helper()
	if e < api.OK || e > api.ErrValue || e != api.OK && !is {
		t.Error(e, is)
	}
}

// errorsAtLast fails unless a term is too large.
func errorsAtLast(t *testing.T, d api.Datum, most int) {
	t.Helper()
	_, _, e := expand.Expand(d, most)
	_, _, f := expand.Plain(d, most)
	_, g := expand.Captured(d, most)
	if e != api.ErrLarge || f != api.ErrLarge || g != api.ErrLarge {
		t.Error(most, e, f, g)
	}
}

// TestDeep: expansions that are nested as deep as there can be come to their end (P1).
func TestDeep(t *testing.T) {
	t.Parallel()
	for _, x := range []struct {
		front, back string
		times       int
	}{{"(", ")", 950}, {"(not ", ")", 450}, {"(fn (x) ", ")", 240}, {"(let x ", " 1)", 235}} {
		program := read(in("(macro m ((() 1) ((0 . ?a) "+strings.Repeat(x.front, x.times)+"(m . ?a)"+strings.Repeat(x.back, x.times)+")) ..)", "(m)"))
		d := put(program, []int{1, 1, 1, 0, 1}, zeros(12))
		errors(t, d, 12, api.ErrLimit)
		errorsAtLast(t, d, 13)
		if l, e := expand.Uses(d, 13); e != api.OK || len(l) != 13 {
			t.Error(x.front, len(l), e)
		}
	}
	endless := "(macro m ((() " + strings.Repeat("(fn (x) ", 240) + "(m)" + strings.Repeat(")", 240) + ")) (m))"
	if l, e := expand.Uses(read(endless), 1000); e != api.ErrLimit || len(l) > 0 {
		t.Error(len(l), e)
	}
	wide := "(macro m ((() (f (m) (m) (m) (m) (m) (m)))) (m))"
	if l, e := expand.Uses(read(wide), 1000); e != api.ErrLimit || len(l) > 0 {
		t.Error(len(l), e)
	}
}
