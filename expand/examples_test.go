package expand_test

import (
	"testing"

	"caracole/api"
	"caracole/expand"
)

// TestExamples is the table of the chapter.
func TestExamples(t *testing.T) {
	inPrelude := func(text string) api.Datum {
		d, e := expand.Prelude(read(text))
		if e != api.OK {
			t.Fatal(e)
		}
		return d
	}
	x := read(in(or2, "(or2 x t)"))
	for i, x := range []struct{ got, want string }{
		{told(expand.Expand(x, 9)), "(let v1 x (if v1 v1 t)), 1"},
		{told(expand.Plain(x, 9)), "(let v1 x (if v1 v1 v1)), 1"},
		{toldBool(expand.Captured(x, 9)), "true"},
		{toldBool(expand.Captured(read(in(or2, "(or2 x y)")), 9)), "false"},
		{told(expand.Expand(read(in("(let t 1 ..)", or2, "(or2 #f t)")), 9)), "(let v1 1 (let v2 #f (if v2 v2 v1))), 1"},
		{told(expand.Expand(read(in(or2, "(let or2 car2 (or2 1))")), 0)), "(let v1 car2 (v1 1)), 0"},
		{told(expand.Expand(read(in(or2, "or2")), 0)), "error 2"},
		{told(expand.Expand(read(in(or2, "(or2 1)")), 9)), "error 10"},
		{told(expand.Expand(read(in(or2, "(or2 1 2)")), 0)), "error 12"},
		{toldNames(expand.Uses(inPrelude("(or 1 (and 2 3) 4)"), 20)), "or or and and or"},
		{told(expand.Expand(inPrelude("(cond (x 1) (else 2))"), 9)), "(if x 1 2), 2"},
		{told(expand.Expand(inPrelude("(let else #f (cond (else 2)))"), 9)), "(let v1 #f (if v1 2 #f)), 2"},
		{told(expand.Expand(inPrelude("(lets ((a 1) (b a)) (list b))"), 9)), "(let v1 1 (let v2 v1 (cons v2 ()))), 5"},
		{told(expand.Expand(read("(macro m (((?x) (fn (y) ?x))) (m y))"), 9)), "(fn (v1) y), 1"},
		{told(expand.Expand(read("(macro m (((?x) (f ?x))) (fn (f) (m f)))"), 9)), "(fn (v1) (f v1)), 1"},
		{told(expand.Expand(read("(macro m ((() (m))) (m))"), 9)), "error 12"},
		{told(expand.Expand(read("(macro m 1 2)"), 9)), "error 1"},
		{told(expand.Expand(read("(macro if () 1)"), 9)), "error 2"},
		{told(expand.Expand(read("(macro m ((1 2 3)) 1)"), 9)), "error 1"},
		{told(expand.Expand(read("(quote (macro m))"), 0)), "(quote (macro m)), 0"},
		{told(expand.Expand(read("macro"), 0)), "error 2"},
		{told(expand.Expand(read("(macro m)"), 0)), "error 5"},
	} {
		if x.got != x.want {
			t.Error(i, x.got, "want", x.want)
		}
	}
}
