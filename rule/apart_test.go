package rule_test

import (
	"slices"
	"testing"

	"caracole/api"
	"caracole/rule"
	"caracole/sample"
	"caracole/term"
)

// What the chapter says under 'Terms', written apart from the package: on terms as they are, with the substitution of layer 4.

func isData(t api.Term) bool { return t.Op == api.Quote }

func isFunction(t api.Term) bool { return t.Op == api.Fn || t.Op == api.Rec }

func isValue(t api.Term) bool {
	switch {
	case isData(t) || isFunction(t):
		return true
	case t.Op != api.Prim || t.Name != "cons" || !isValue(t.Args[0]) || !isValue(t.Args[1]) || isData(t.Args[0]) && isData(t.Args[1]):
		return false
	}
	return pieces(t.Args[0])+pieces(t.Args[1]) < api.DatumSize
}

func pieces(v api.Term) int {
	switch {
	case isData(v):
		return len(sample.Paths(v.Data))
	case isFunction(v):
		return 1
	}
	return 1 + pieces(v.Args[0]) + pieces(v.Args[1])
}

func shown(v api.Term) api.Datum {
	switch {
	case isData(v):
		return v.Data
	case isFunction(v):
		return sym("function")
	}
	return sample.Pair(shown(v.Args[0]), shown(v.Args[1]))
}

func join(v, w api.Term) api.Term {
	if isData(v) && isData(w) {
		return quote(sample.Pair(v.Data, w.Data))
	}
	return prim("cons", v, w)
}

func listOf(l []api.Term) api.Term {
	if len(l) == 0 {
		return quote(api.Datum{})
	}
	return join(l[0], listOf(l[1:]))
}

// parts are the elements of a proper list.
func parts(v api.Term) ([]api.Term, bool) {
	var first, rest api.Term
	switch {
	case isData(v) && v.Data.Kind == api.Nil:
		return nil, true
	case isData(v) && v.Data.Kind == api.Pair:
		first, rest = quote(v.Data.Parts[0]), quote(v.Data.Parts[1])
	case v.Op == api.Prim:
		first, rest = v.Args[0], v.Args[1]
	default:
		return nil, false
	}
	l, ok := parts(rest)
	return append([]api.Term{first}, l...), ok
}

func early(t api.Term) []api.Term {
	switch t.Op {
	case api.If, api.Let:
		return t.Args[:1]
	case api.Quote, api.Var, api.Fn, api.Rec, api.Marks:
		return nil
	}
	return t.Args
}

// placeOf is the path of the place of a closed term that is no value.
func placeOf(t api.Term) []int {
	for i, a := range early(t) {
		if !isValue(a) {
			return append([]int{i}, placeOf(a)...)
		}
	}
	return nil
}

// marksOn are the marks on the way to a place.
func marksOn(t api.Term, path []int) []api.Term {
	if len(path) == 0 {
		return nil
	}
	l := marksOn(t.Args[path[0]], path[1:])
	if t.Op == api.Mark && path[0] == 1 {
		l = append(l, t.Args[0])
	}
	return l
}

// handlerOn is how long the path to the innermost handler on the way is, or -1.
func handlerOn(t api.Term, path []int) int {
	for n := len(path) - 1; n >= 0; n-- {
		if at(t, path[:n]).Op == api.Handle && path[n] == 1 {
			return n
		}
	}
	return -1
}

func called(f api.Term, args []api.Term) (api.Term, api.Errno) {
	switch {
	case !isFunction(f):
		return api.Term{}, api.ErrKind
	case len(args) < len(f.Names):
		return api.Term{}, api.ErrFew
	case len(args) > len(f.Names):
		return api.Term{}, api.ErrMany
	}
	names := slices.Clone(f.Names)
	if f.Op == api.Rec {
		names, args = append(names, f.Name), append(slices.Clone(args), f)
	}
	return term.SubstAll(f.Args[0], names, args)
}

func operated(t api.Term) (api.Term, api.Errno) {
	truth := map[bool]api.Term{true: parse("#t"), false: parse("#f")}
	v := t.Args[0]
	if !slices.ContainsFunc(t.Args, func(v api.Term) bool { return !isData(v) }) {
		var l []api.Datum
		for _, v := range t.Args {
			l = append(l, v.Data)
		}
		d, e := term.Delta(t.Name, l)
		return quote(d), e
	}
	switch t.Name {
	case "cons":
		return api.Term{}, api.ErrLarge
	case "car", "cdr":
		if v.Op == api.Prim {
			return v.Args[len(t.Name)-3+map[string]int{"cdr": 1}[t.Name]], api.OK
		}
	case "pair?":
		return truth[v.Op == api.Prim], api.OK
	case "fn?":
		return truth[isFunction(v)], api.OK
	case "eq", "not", "null?", "num?", "sym?", "str?", "bool?", "vec?":
		return truth[false], api.OK
	}
	return api.Term{}, api.ErrKind
}

// rewritten is a step: the rule, the next term, or the error with which the program ends, or that the step is too large.
func rewritten(t api.Term) (s api.RuleStep, large bool) {
	path := placeOf(t)
	p := at(t, path)
	s.Rule = map[int]int{api.App: api.RuleCall, api.Apply: api.RuleApply, api.If: api.RuleIf, api.Let: api.RuleLet, api.Prim: api.RulePrim, api.Handle: api.RuleHandle, api.Signal: api.RuleSignal, api.Mark: api.RuleMark, api.Marks: api.RuleMarks, api.Emit: api.RuleEmit}[p.Op]
	var becomes api.Term
	var e api.Errno
	switch p.Op {
	case api.App:
		becomes, e = called(p.Args[0], p.Args[1:])
	case api.Apply:
		args, ok := parts(p.Args[1])
		if isFunction(p.Args[0]) && ok {
			becomes, e = called(p.Args[0], args)
		} else {
			e = api.ErrKind
		}
	case api.If:
		becomes = p.Args[1]
		if text(p.Args[0]) == "#f" {
			becomes = p.Args[2]
		}
	case api.Let:
		becomes, e = term.Subst(p.Args[1], p.Name, p.Args[0])
	case api.Prim:
		becomes, e = operated(p)
	case api.Handle, api.Mark:
		becomes = p.Args[1]
	case api.Emit:
		becomes, s.Out = p.Args[0], []api.Datum{shown(p.Args[0])}
	case api.Marks:
		becomes = listOf(marksOn(t, path))
		if pieces(becomes) > api.DatumSize {
			e = api.ErrLarge
		}
	case api.Signal:
		n := handlerOn(t, path)
		if n < 0 {
			e = api.ErrNone
			break
		}
		h := at(t, path[:n])
		rest := function("v", putAt(h, path[n:], nameVar("v")))
		path, becomes = path[:n], call(h.Args[0], p.Args[0], rest)
	}
	if e == api.ErrLarge && (p.Op == api.App || p.Op == api.Apply || p.Op == api.Let) {
		return s, true
	}
	if e != api.OK {
		return api.RuleStep{Rule: s.Rule, Err: e}, false
	}
	s.Next = putAt(t, path, becomes)
	return s, size(s.Next) > api.TermSize
}

// ran is a run of at most so many steps.
func ran(t api.Term, most int) (r api.Result, next api.Term, trace []int, large bool) {
	for len(trace) < most && !isValue(t) {
		s, large := rewritten(t)
		if large {
			return r, t, trace, true
		}
		trace = append(trace, s.Rule)
		if r.Err = s.Err; r.Err != api.OK {
			return r, t, trace, false
		}
		r.Out = append(r.Out, s.Out...)
		t = s.Next
	}
	if isValue(t) {
		r.Value = shown(t)
	} else {
		r.Err = api.ErrLimit
	}
	return r, t, trace, false
}

// TestApart compares all functions with what is written apart, over many programs.
func TestApart(t *testing.T) {
	t.Parallel()
	r := sample.NewRandom(11)
	met := map[string]int{}
	for _, x := range programs(10, 2500) {
		compare(t, x, met)
		most := r.Below(60)
		want, next, trace, large := ran(x, most)
		if large {
			met["large"]++
			if _, _, e := rule.Run(x, most); e != api.ErrLarge {
				t.Error(text(x), e)
			}
			continue
		}
		met["end "+toldOr("", want.Err)]++
		got, steps, e := rule.Run(x, most)
		if a, b := toldRun(got, steps, e), toldRun(want, len(trace), api.OK); a != b {
			t.Error(text(x), a, b)
		}
		l, e := rule.Trace(x, most)
		if e != api.OK || !slices.Equal(l, trace) {
			t.Error(text(x), toldTrace(l, e))
		}
		if a, b := toldAfter(rule.After(x, most)), toldAfter(next, want.Out, api.OK); a != b {
			t.Error(text(x), a, b)
		}
		compare(t, next, met)
	}
	for n, what := range map[int]string{100: "call", 101: "apply", 102: "if", 103: "let", 104: "prim", 20: "handle", 105: "signal", 106: "mark", 21: "marks", 107: "emit", 22: "end error 4", 50: "end error 10", 23: "end error 6", 24: "end error 12", 200: "end "} {
		if met[what] < min(n, 60) {
			t.Error(what, met)
		}
	}
}

// compare compares what is said of a term and of its one step.
func compare(t *testing.T, x api.Term, met map[string]int) {
	t.Helper()
	v, e := rule.Value(x)
	if e != api.OK || v != isValue(x) {
		t.Error(text(x), v, e)
	}
	if v {
		want := []string{"true", show(shown(x)), "error 16", "", "error 16", "error 16", "error 16"}
		if got := everything(x, x, nil, 0)[:7]; !slices.Equal(slices.Delete(got, 3, 4), slices.Delete(want, 3, 4)) {
			t.Error(text(x), got)
		}
		return
	}
	path := placeOf(x)
	s, large := rewritten(x)
	met[ruleName(s.Rule)]++
	step := toldStep(s, api.OK)
	if large {
		step = "error 8"
	}
	want := []string{"false", "error 4", numbers(path), text(function("v", putAt(x, path, nameVar("v")))), toldTerms(marksOn(x, path), api.OK), step}
	if got := slices.Delete(everything(x, x, nil, 0)[:7], 3, 4); !slices.Equal(got, want) {
		t.Error(text(x), got, want)
	}
}

// TestOperations compares what operations make of values of all kinds.
func TestOperations(t *testing.T) {
	l := values()
	for _, op := range sample.Unary() {
		for _, v := range l {
			compare(t, prim(op, v), map[string]int{})
		}
	}
	for _, op := range sample.Binary() {
		for _, v := range l {
			for _, w := range l {
				compare(t, prim(op, v, w), map[string]int{})
			}
		}
	}
	for _, v := range l {
		compare(t, api.Term{Op: api.If, Args: []api.Term{v, quote(num(1)), quote(num(2))}}, map[string]int{})
		compare(t, api.Term{Op: api.Emit, Args: []api.Term{v}}, map[string]int{})
		for _, w := range l {
			compare(t, api.Term{Op: api.Apply, Args: []api.Term{v, w}}, map[string]int{})
			compare(t, call(v, w), map[string]int{})
		}
	}
}
