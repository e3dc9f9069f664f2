package expand

import (
	"slices"

	"caracole/api"
	"caracole/guard"
	"caracole/plain"
	"caracole/print"
)

// inPrelude returns a datum inside of the forms of the prelude, of which the first one is around all others.
func inPrelude(d api.Datum) api.Datum {
	macros := []string{
		"(macro seq (((?a) ?a) ((?a ?b etc) (let t ?a (seq ?b etc)))))",
		"(macro or ((() #f) ((?a) ?a) ((?a ?b etc) (let t ?a (if t t (or ?b etc))))))",
		"(macro and ((() #t) ((?a) ?a) ((?a ?b etc) (if ?a (and ?b etc) #f))))",
		"(macro lets (((() ?b) ?b) ((((?x ?e) ?r etc) ?b) (let ?x ?e (lets (?r etc) ?b)))))",
		"(macro cond ((() #f) (((else ?e) ?r etc) ?e) (((?a ?e) ?r etc) (if ?a ?e (cond ?r etc)))))",
		"(macro list ((() ()) ((?a ?b etc) (cons ?a (list ?b etc)))))",
	}
	for _, text := range slices.Backward(macros) {
		front, _, e := print.Read(text)
		guard.Check(e)
		l, _ := plain.Elements(front)
		d = plain.List(api.Datum{}, behind(l, d)...)
	}
	return d
}
