package expand_test

import (
	"slices"
	"strconv"
	"strings"
	"testing"

	"caracole/api"
	"caracole/expand"
	"caracole/sample"
)

var (
	num, sym, vec, wide, zeros = sample.Num, sample.Sym, sample.Vec, sample.Wide, sample.Zeros
	show, read, readAll        = sample.Show, sample.Read, sample.ReadAll
	same, allPaths, follow     = sample.Same, sample.Paths, sample.Follow
	toldOr, toldBool           = sample.Told, sample.ToldBool
	toldDatum, size            = sample.ToldDatum, sample.TermSize
)

func list(l ...api.Datum) api.Datum { return sample.List(api.Datum{}, l...) }

// told is what Expand and Plain return.
func told(t api.Term, steps int, e api.Errno) string {
	return toldOr(sample.TermText(t)+", "+strconv.Itoa(steps), e)
}

func toldNames(l []string, e api.Errno) string { return toldOr(strings.Join(l, " "), e) }

// in puts a program inside of forms: each text stands around all that follow, with .. where these are.
func in(texts ...string) string {
	out := ".."
	for _, s := range texts {
		out = strings.Replace(out, "..", s, 1)
	}
	return out
}

// or2 is O of the chapter.
const or2 = "(macro or2 (((?a ?b) (let t ?a (if t t ?b)))) ..)"

// prelude is the prelude of the chapter.
const prelude = `(macro seq (((?a) ?a) ((?a ?b etc) (let t ?a (seq ?b etc))))
(macro or ((() #f) ((?a) ?a) ((?a ?b etc) (let t ?a (if t t (or ?b etc)))))
(macro and ((() #t) ((?a) ?a) ((?a ?b etc) (if ?a (and ?b etc) #f)))
(macro lets (((() ?b) ?b) ((((?x ?e) ?r etc) ?b) (let ?x ?e (lets (?r etc) ?b))))
(macro cond ((() #f) (((else ?e) ?r etc) ?e) (((?a ?e) ?r etc) (if ?a ?e (cond ?r etc))))
(macro list ((() ()) ((?a ?b etc) (cons ?a (list ?b etc)))) ..))))))`

// isVar and the like are written apart from the layers.
func isVar(d api.Datum) bool { return d.Kind == api.Sym && len(d.Text) > 1 && d.Text[0] == '?' }

func isEtc(d api.Datum) bool { return d.Kind == api.Sym && d.Text == "etc" }

func elements(d api.Datum) (l []api.Datum, tail api.Datum) {
	for ; d.Kind == api.Pair; d = d.Parts[1] {
		l = append(l, d.Parts[0])
	}
	return l, d
}

// pieces is how many pieces a datum consists of.
func pieces(d api.Datum) int {
	n := 1
	for _, p := range d.Parts {
		n += pieces(p)
	}
	return n
}

// change is a datum with other texts of its symbols.
func change(d api.Datum, text func(string) string) api.Datum {
	d = sample.Copy(d)
	for _, path := range allPaths(d) {
		at := &d
		for _, i := range path {
			at = &at.Parts[i]
		}
		if at.Kind == api.Sym {
			at.Text = text(at.Text)
		}
	}
	return d
}

func texts(d api.Datum) []string {
	var l []string
	change(d, func(s string) string { l = append(l, s); return s })
	return l
}

// must is the term and the steps of an expansion that may not fail.
func must(t *testing.T, d api.Datum) (api.Term, int) {
	t.Helper()
	out, steps, e := expand.Expand(d, api.ExpandSteps)
	if e != api.OK {
		t.Fatal(show(d), e)
	}
	return out, steps
}

// programs are programs by chance that Expand has a term for in so many steps.
func programs(seed uint64, n, most int) []api.Datum {
	c := newChance(seed)
	var l []api.Datum
	for len(l) < n {
		d := c.program()
		if _, _, e := expand.Expand(d, most); e == api.OK {
			l = append(l, d)
		}
	}
	return l
}

// distinct are the names of a list, each once.
func distinct(l []string) []string { return slices.Compact(slices.Sorted(slices.Values(l))) }
