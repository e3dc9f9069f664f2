package term_test

import (
	"maps"
	"slices"
	"strconv"
	"strings"

	"caracole/api"
	"caracole/sample"
)

var (
	num, sym, str, flag = sample.Num, sample.Sym, sample.Str, sample.Bool
	pair, vec           = sample.Pair, sample.Vec
	show, read          = sample.Show, sample.Read
	sameData            = sample.Same
	parse, parseAll     = sample.Term, sample.Terms
	text, same          = sample.TermText, sample.SameTerm
	quote, variable     = sample.Quote, sample.Var
	allPaths, follow    = sample.TermPaths, sample.FollowTerm
	toldOr, told        = sample.Told, sample.ToldTerm
	toldData            = sample.ToldDatum
	size, call          = sample.TermSize, sample.Call
)

func list(l ...api.Datum) api.Datum { return sample.List(api.Datum{}, l...) }

// toldNames is what a function returns for names.
func toldNames(l []string, e api.Errno) string { return toldOr(strings.Join(l, " "), e) }

// terms are many terms, in which names clash often.
func terms(seed uint64, n int) []api.Term {
	r := sample.NewRandom(seed)
	var l []api.Term
	for i := range n {
		l = append(l, r.Term(1+i%5))
	}
	return l
}

// boundBy are the names that a term binds in an argument, written apart from package term.
func boundBy(t api.Term, arg int) []string {
	switch {
	case t.Op == api.Fn:
		return slices.Clone(t.Names)
	case t.Op == api.Rec:
		return append([]string{t.Name}, t.Names...)
	case t.Op == api.Let && arg == 1:
		return []string{t.Name}
	}
	return nil
}

// freeVars are the names of all Vars that are free in a term, as often as they occur.
func freeVars(t api.Term, bound ...string) []string {
	if t.Op == api.Var && !slices.Contains(bound, t.Name) {
		return []string{t.Name}
	}
	var l []string
	for i, a := range t.Args {
		l = append(l, freeVars(a, append(boundBy(t, i), bound...)...)...)
	}
	return l
}

func isFree(name string, t api.Term) bool { return slices.Contains(freeVars(t), name) }

// sorted are names, ascending, each once.
func sorted(l []string) []string {
	l = slices.Sorted(slices.Values(l))
	return slices.Compact(l)
}

// nameless is the text of a term in which a bound name is the number of binders that are between, and its place in the binder, and in which free names are replaced. No name can be caught in it, and terms that are the same have one text.
func nameless(t api.Term, by map[string]api.Term, around ...[]string) string {
	if t.Op == api.Var {
		for i, names := range slices.Backward(around) {
			if k := slices.Index(names, t.Name); k >= 0 {
				return "<" + strconv.Itoa(len(around)-i) + "." + strconv.Itoa(k) + ">"
			}
		}
		if s, ok := by[t.Name]; ok {
			return nameless(s, nil)
		}
		return t.Name
	}
	words := []string{strconv.Itoa(t.Op), strconv.Itoa(len(t.Names)), show(t.Data)}
	if t.Op == api.Prim {
		words = append(words, t.Name)
	}
	for i, a := range t.Args {
		inside := around
		if l := boundBy(t, i); t.Op == api.Fn || len(l) > 0 {
			inside = append(slices.Clone(around), l)
		}
		words = append(words, nameless(a, by, inside...))
	}
	return "(" + strings.Join(words, " ") + ")"
}

func alike(a, b api.Term) bool { return nameless(a, nil) == nameless(b, nil) }

// newName is Fresh as the chapter says it.
func newName(name string, taken []string) string {
	for i := 1; ; i++ {
		if s := name[:min(15, len(name))] + strconv.Itoa(i); !slices.Contains(taken, s) {
			return s
		}
	}
}

// replaced is the substitution as the chapter says it, step by step, and so as slow as it is.
func replaced(t api.Term, by map[string]api.Term) api.Term {
	if s, ok := by[t.Name]; ok && t.Op == api.Var {
		return s
	}
	t = sample.CopyTerm(t)
	for i := range t.Args {
		left := maps.Clone(by)
		maps.DeleteFunc(left, func(name string, _ api.Term) bool {
			return slices.Contains(boundBy(t, i), name) || !isFree(name, t.Args[i])
		})
		var brought []string
		for _, s := range left {
			brought = append(brought, freeVars(s)...)
		}
		for k, name := range boundBy(t, i) {
			if slices.Contains(brought, name) {
				taken := slices.Concat(brought, freeVars(t.Args[i]), boundBy(t, i))
				other := newName(name, taken)
				t.Args[i] = replaced(t.Args[i], map[string]api.Term{name: variable(other)})
				rebind(&t, k, other)
			}
		}
		t.Args[i] = replaced(t.Args[i], left)
	}
	return t
}

// rebind changes one of the names that a term binds.
func rebind(t *api.Term, k int, name string) {
	switch {
	case t.Op == api.Fn:
		t.Names[k] = name
	case k == 0:
		t.Name = name
	default:
		t.Names[k-1] = name
	}
}

// deep is (emit (emit .. x)), of n terms.
func deep(n int) api.Term {
	t := variable("x")
	for range n - 1 {
		t = api.Term{Op: api.Emit, Args: []api.Term{t}}
	}
	return t
}

// bushy is a call of calls, of n terms, that is not deep.
func bushy(n int, leaf api.Term) api.Term {
	if n == 1 {
		return leaf
	}
	t := api.Term{Op: api.App}
	n--
	for k := 7; k > 0; k-- {
		if part := (n + k - 1) / k; part > 0 {
			t.Args = append(t.Args, bushy(part, leaf))
			n -= part
		}
	}
	return t
}

// fault is a term that is not valid, with its error.
type fault struct {
	name string
	t    api.Term
	want api.Errno
}

// ring is a term that is a part of itself.
func ring() api.Term {
	t := api.Term{Op: api.Emit, Args: []api.Term{{}}}
	t.Args[0] = t
	return t
}

// faults are terms that are not valid. Where several things are wrong, the first one has the error.
func faults() []fault {
	one, two := num(1), []api.Term{variable("x"), variable("y")}
	bad := api.Term{Op: -1}
	var l []fault
	add := func(name string, want api.Errno, t api.Term) { l = append(l, fault{name: name, t: t, want: want}) }
	add("too large", api.ErrLarge, deep(2001))
	add("too large, and no Op", api.ErrLarge, api.Term{Op: 99, Args: []api.Term{bushy(2000, bad)}})
	add("too wide", api.ErrLarge, api.Term{Op: api.App, Args: make([]api.Term, 2000)})
	add("a ring", api.ErrLarge, ring())
	add("Op -1", api.ErrKind, api.Term{Op: -1, Name: "A", Names: []string{"1"}, Data: api.Datum{Kind: 9}})
	add("Op 14", api.ErrKind, api.Term{Op: api.ConvertClose, Data: one})
	add("Quote with a name", api.ErrName, api.Term{Op: api.Quote, Name: "x", Names: []string{"x"}, Data: api.Datum{Kind: 9}})
	add("Var without a name", api.ErrName, api.Term{Op: api.Var, Names: []string{"x"}})
	add("Var of a word", api.ErrName, api.Term{Op: api.Var, Name: "if"})
	add("Var of an operation", api.ErrName, api.Term{Op: api.Var, Name: "car"})
	add("Var of no symbol", api.ErrName, api.Term{Op: api.Var, Name: "X"})
	add("Let of a word", api.ErrName, api.Term{Op: api.Let, Name: "fn", Args: two})
	add("Let without a name", api.ErrName, api.Term{Op: api.Let, Args: two})
	add("Rec of a number", api.ErrName, api.Term{Op: api.Rec, Name: "-1", Names: []string{"1"}, Args: two[:1]})
	add("Prim of a name", api.ErrName, api.Term{Op: api.Prim, Name: "x", Args: two})
	add("Prim of a word", api.ErrName, api.Term{Op: api.Prim, Name: "if", Args: two})
	add("Prim without a name", api.ErrName, api.Term{Op: api.Prim, Names: []string{"x"}})
	add("Fn with a name", api.ErrName, api.Term{Op: api.Fn, Name: "f", Names: []string{"1"}, Args: two[:1]})
	add("Marks with a name", api.ErrName, api.Term{Op: api.Marks, Name: "x", Data: one})
	add("Fn of 7", api.ErrMany, api.Term{Op: api.Fn, Names: []string{"1", "b", "c", "d", "e", "f", "g"}, Data: one})
	add("Fn of no name", api.ErrName, api.Term{Op: api.Fn, Names: []string{"a", "quote", "a"}, Data: one})
	add("Fn of one name twice", api.ErrTwice, api.Term{Op: api.Fn, Names: []string{"a", "b", "a", "1"}, Data: one})
	add("Rec of 7", api.ErrMany, api.Term{Op: api.Rec, Name: "f", Names: []string{"f", "b", "c", "d", "e", "f", "g"}})
	add("Rec of its own name", api.ErrTwice, api.Term{Op: api.Rec, Name: "f", Names: []string{"a", "f", "1"}, Data: one})
	add("Rec of no name", api.ErrName, api.Term{Op: api.Rec, Name: "f", Names: []string{"", "f"}, Data: one})
	add("Let with Names", api.ErrMany, api.Term{Op: api.Let, Name: "x", Names: []string{"x"}, Data: one})
	add("Quote with Names", api.ErrMany, api.Term{Op: api.Quote, Names: []string{"1"}, Data: api.Datum{Kind: 9}})
	add("App with Names", api.ErrMany, api.Term{Op: api.App, Names: []string{"1"}, Data: one})
	add("Quote of no kind", api.ErrKind, api.Term{Op: api.Quote, Data: api.Datum{Kind: 9}, Args: two})
	add("Quote of no form", api.ErrForm, api.Term{Op: api.Quote, Data: vec(num(1), api.Datum{Kind: api.Pair})})
	add("Quote of no number", api.ErrValue, api.Term{Op: api.Quote, Data: num(api.NumMost + 1)})
	add("Quote of no symbol", api.ErrName, api.Term{Op: api.Quote, Data: sym("1")})
	add("Quote of much", api.ErrLarge, api.Term{Op: api.Quote, Data: sample.Wide(api.DatumSize), Args: two})
	add("Var with data", api.ErrForm, api.Term{Op: api.Var, Name: "x", Data: one, Args: two})
	add("App with no data", api.ErrForm, api.Term{Op: api.App, Data: api.Datum{Kind: -1}})
	add("Fn with parts", api.ErrForm, api.Term{Op: api.Fn, Data: api.Datum{Parts: []api.Datum{{}}}})
	add("Marks with a text", api.ErrForm, api.Term{Op: api.Marks, Data: api.Datum{Text: "x"}, Args: two})
	add("Emit with a number", api.ErrForm, api.Term{Op: api.Emit, Data: api.Datum{Num: 1}})
	for _, x := range []struct {
		op   int
		name string
		args int
	}{{api.Quote, "", 0}, {api.Var, "x", 0}, {api.Fn, "", 1}, {api.If, "", 3}, {api.Let, "x", 2}, {api.Rec, "f", 1}, {api.Prim, "car", 1}, {api.Prim, "cons", 2}, {api.Apply, "", 2}, {api.Handle, "", 2}, {api.Signal, "", 1}, {api.Mark, "", 2}, {api.Marks, "", 0}, {api.Emit, "", 1}} {
		t := api.Term{Op: x.op, Name: x.name}
		if x.args > 0 {
			t.Args = slices.Repeat([]api.Term{bad}, x.args-1)
			add("few for "+strconv.Itoa(x.op)+x.name, api.ErrFew, t)
		}
		t.Args = slices.Repeat([]api.Term{bad}, x.args+1)
		add("many for "+strconv.Itoa(x.op)+x.name, api.ErrMany, t)
	}
	add("App of nothing", api.ErrFew, api.Term{Op: api.App})
	add("App of 8", api.ErrMany, api.Term{Op: api.App, Args: slices.Repeat([]api.Term{bad}, 8)})
	few := api.Term{Op: api.Emit}
	add("first argument", api.ErrFew, call(call(few, variable("X")), bad))
	add("second argument", api.ErrName, call(variable("f"), call(variable("x"), variable("X")), bad))
	add("itself first", api.ErrMany, api.Term{Op: api.Emit, Args: []api.Term{bad, bad}})
	add("deeper first", api.ErrName, api.Term{Op: api.If, Args: []api.Term{call(variable("x"), call(variable("X"))), bad, bad}})
	return l
}
