package delta_test

import (
	"testing"

	"caracole/api"
	"caracole/delta"
	"caracole/guard"
	"caracole/sample"
	"caracole/term"
)

// TestOf: for data that are valid it is what layer 4 says.
func TestOf(t *testing.T) {
	r := sample.NewRandom(1)
	ops := append(sample.Unary(), sample.Binary()...)
	failed := 0
	for range 20000 {
		op := ops[r.Below(len(ops))]
		var args []api.Datum
		for range delta.Takes(op) {
			args = append(args, r.Datum(2))
		}
		got, e := guard.Call(func() api.Datum { return delta.Of(op, args...) })
		want, f := term.Delta(op, args)
		if !sample.Same(got, want) || e != f {
			t.Error(op, sample.ShowAll(args), sample.Show(got), e, sample.Show(want), f)
		}
		if e != api.OK {
			failed++
		}
	}
	if failed < 1000 || failed > 15000 {
		t.Error(failed)
	}
	got := delta.Of("cdr", sample.Read("(1 2 3)"))
	if sample.Show(got) != "(2 3)" {
		t.Error(sample.Show(got))
	}
}

func TestTakes(t *testing.T) {
	for _, op := range append(sample.Unary(), sample.Binary()...) {
		if n, e := term.Takes(op); n != delta.Takes(op) || e != api.OK {
			t.Error(op, n, e)
		}
	}
	for _, op := range []string{"", "if", "x", "Car", "quote"} {
		if n := delta.Takes(op); n != 0 {
			t.Error(op, n)
		}
	}
}

func TestTruth(t *testing.T) {
	if sample.Show(delta.Truth(true)) != "#t" || sample.Show(delta.Truth(false)) != "#f" {
		t.Error("truth")
	}
}
