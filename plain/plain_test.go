package plain

import (
	"slices"
	"strings"
	"testing"

	"caracole/api"
	"caracole/sample"
)

func TestEach(t *testing.T) {
	if got := strings.Join(Each([]string{"a", "b", ""}, strings.ToUpper), " "); got != "A B " {
		t.Error(got)
	}
	for _, l := range [][]string{nil, {}} {
		if Each(l, strings.ToUpper) != nil {
			t.Error("a slice of nothing")
		}
	}
}

func TestCopyAndEqual(t *testing.T) {
	all := sample.ReadAll("()", "#f", "#t", "0", "1", "a", `"a"`, "(1 2)", "(1 . 2)", "#()", "#(1 (a))", "#(1 (b))", "#(1)")
	for i, a := range all {
		b := Copy(a)
		for k, c := range all {
			if Equal(b, c) != (i == k) || Equal(c, b) != (i == k) {
				t.Error(sample.Show(b), sample.Show(c))
			}
		}
		for k := range b.Parts {
			b.Parts[k] = sample.Num(7)
		}
		if len(a.Parts) > 0 && Equal(a, b) {
			t.Error(sample.Show(a))
		}
	}
	if !Equal(api.Datum{Parts: []api.Datum{}}, api.Datum{}) {
		t.Error("an empty slice is not as none")
	}
}

func TestTerms(t *testing.T) {
	all := sample.Terms("x", "y", "1", "(fn (x) x)", "(fn (y) x)", "(fn (y) y)", "(rec x () x)", "(let x () x)", "(car x)", "(cdr x)", "(f x)", "(f y)", "(f)")
	for i, a := range all {
		b := CopyTerm(a)
		for k, c := range all {
			if EqualTerms(b, c) != (i == k) {
				t.Error(sample.TermText(b), sample.TermText(c))
			}
		}
		b.Names = append(b.Names[:0], "z")
		b.Args = append(b.Args[:0], sample.Quote(sample.Num(7)))
		if slices.Contains(a.Names, "z") || len(a.Args) > 0 && a.Args[0].Data.Num == 7 {
			t.Error(sample.TermText(a))
		}
	}
}

func TestLists(t *testing.T) {
	one, two := sample.Num(1), sample.Num(2)
	for text, d := range map[string]api.Datum{"(1 2)": List(api.Datum{}, one, two), "()": List(api.Datum{}), "(1 . 2)": List(two, one), "2": List(two), "(1 2 1 . 2)": List(List(two, one), one, two)} {
		if got := sample.Show(d); got != text {
			t.Error(got, "want", text)
		}
		l, tail := Elements(d)
		if again := sample.Show(List(tail, l...)); again != text || tail.Kind == api.Pair {
			t.Error(again, "want", text)
		}
	}
	if l, tail := Elements(sample.Read("#(1 2)")); len(l) > 0 || tail.Kind != api.Vec {
		t.Error(l, tail)
	}
}

func TestPieces(t *testing.T) {
	for text, want := range map[string]int{"()": 1, "(1 2)": 5, "#(1 (2) a)": 6, `"ab"`: 1} {
		if got := Pieces(sample.Read(text)); got != want {
			t.Error(text, got)
		}
	}
}
