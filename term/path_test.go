package term_test

import (
	"slices"
	"testing"

	"caracole/api"
	"caracole/term"
)

func TestPaths(t *testing.T) {
	x := parse("(let x (f y) (rec g (a b) (if a (fn (y x) (y)) (g b))))")
	for _, p := range []struct {
		path            []int
		at, put, around string
	}{
		{nil, text(x), "(x n)", ""},
		{[]int{0}, "(f y)", "(let x (x n) (rec g (a b) (if a (fn (y x) (y)) (g b))))", ""},
		{[]int{0, 1}, "y", "(let x (f (x n)) (rec g (a b) (if a (fn (y x) (y)) (g b))))", ""},
		{[]int{1}, "(rec g (a b) (if a (fn (y x) (y)) (g b)))", "(let x (f y) (x n))", "x"},
		{[]int{1, 0}, "(if a (fn (y x) (y)) (g b))", "(let x (f y) (rec g (a b) (x n)))", "a b g x"},
		{[]int{1, 0, 1}, "(fn (y x) (y))", "(let x (f y) (rec g (a b) (if a (x n) (g b))))", "a b g x"},
		{[]int{1, 0, 1, 0}, "(y)", "(let x (f y) (rec g (a b) (if a (fn (y x) (x n)) (g b))))", "a b g x y"},
		{[]int{1, 0, 1, 0, 0}, "y", "(let x (f y) (rec g (a b) (if a (fn (y x) ((x n))) (g b))))", "a b g x y"},
		{[]int{1, 0, 2, 1}, "b", "(let x (f y) (rec g (a b) (if a (fn (y x) (y)) (g (x n)))))", "a b g x"},
	} {
		if got := told(term.At(x, p.path)); got != p.at {
			t.Error(p.path, got, "want", p.at)
		}
		if got := told(term.Put(x, p.path, parse("(x n)"))); got != p.put {
			t.Error(p.path, got, "want", p.put)
		}
		if got := toldNames(term.Bound(x, p.path)); got != p.around {
			t.Error(p.path, got, "want", p.around)
		}
	}
	for _, path := range [][]int{{2}, {-1}, {0, 2}, {0, 0, 0}, {1, 1}, {1, -1}, {1, 0, 3}, {1, 0, 1, 0, 1}, {1 << 62}, {-1 << 63, 0}, {2, -1}} {
		_, e := term.At(x, path)
		y, f := term.Put(x, path, parse("(x n)"))
		l, g := term.Bound(x, path)
		if e != api.ErrRange || f != api.ErrRange || g != api.ErrRange || !same(y, api.Term{}) || len(l) > 0 {
			t.Error(path, e, f, g)
		}
	}
}

func TestPutLarge(t *testing.T) {
	half := bushy(1000, variable("x"))
	for i, p := range []struct {
		t    api.Term
		path []int
		s    api.Term
		want api.Errno
	}{
		{call(half, half), []int{0}, bushy(999, variable("y")), api.OK}, {call(half, variable("x")), []int{0}, bushy(1998, variable("y")), api.OK}, {call(half, variable("x")), []int{0}, bushy(1999, variable("y")), api.ErrLarge},
		{deep(2000), slices.Repeat([]int{0}, 1999), variable("y"), api.OK}, {deep(2000), slices.Repeat([]int{0}, 1999), parse("(f)"), api.ErrLarge}, {deep(2000), slices.Repeat([]int{0}, 1998), parse("(f)"), api.OK},
		{deep(2000), nil, deep(2000), api.OK}, {deep(2000), slices.Repeat([]int{0}, 2000), deep(2000), api.ErrRange},
	} {
		if size(p.t) > 2000 {
			p.t.Args[1] = bushy(998, variable("x"))
		}
		y, e := term.Put(p.t, p.path, p.s)
		if e != p.want || e == api.OK && (size(y) > 2000 || !same(follow(y, p.path), p.s)) || e != api.OK && !same(y, api.Term{}) {
			t.Error(i, size(p.t), size(y), e, "want", p.want)
		}
	}
}
