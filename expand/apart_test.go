package expand_test

import (
	"slices"
	"strconv"

	"caracole/api"
	"caracole/match"
	"caracole/sample"
)

// This file is the chapter's definition of expansion, written apart from the package: symbols are pointers, what is bound is a chain, and what a symbol of a use stands for is looked up where its macro is defined each time it is asked for.

// origin is a symbol. One that came of a use knows the symbol of the template, and where the macro is defined.
type origin struct {
	text string
	from *origin
	at   *chain
}

// chain is what the forms around bind, the innermost one first.
type chain struct {
	symbol *origin
	bound  *bound
	next   *chain
}

// bound is a variable, or a macro with its rules and where these are.
type bound struct {
	name  string
	macro bool
	rules [][2]tree
	at    *chain
}

// tree is a datum with symbols.
type tree struct {
	api.Datum
	symbol *origin
	parts  []tree
}

// apart expands a program as the chapter says.
type apart struct {
	plain  bool
	most   int
	words  map[string]*origin
	used   []string
	terms  int
	made   []string // names of variables as they were bound
	failed api.Errno
}

// expandApart is what Expand, or Plain, and Uses should return.
func expandApart(d api.Datum, most int, plain bool) (t api.Term, used []string, e api.Errno) {
	x := apart{plain: plain, most: most, words: map[string]*origin{}}
	defer func() {
		if r := recover(); r != nil {
			t, used, e = api.Term{}, nil, r.(api.Errno)
		}
	}()
	t = x.term(x.tree(d), nil)
	if x.terms > api.TermSize {
		return api.Term{}, x.used, api.ErrLarge
	}
	x.finish(&t, freeNames(t, nil))
	return t, x.used, api.OK
}

func (x *apart) tree(d api.Datum) tree {
	out := tree{Datum: d}
	if d.Kind == api.Sym {
		if x.words[d.Text] == nil {
			x.words[d.Text] = &origin{text: d.Text}
		}
		out.symbol = x.words[d.Text]
	}
	for _, p := range d.Parts {
		out.parts = append(out.parts, x.tree(p))
	}
	return out
}

// plainDatum is a tree without origins.
func (t tree) plainDatum() api.Datum {
	if t.symbol != nil {
		return sample.Sym(t.symbol.text)
	}
	d := api.Datum{Kind: t.Kind, Num: t.Num, Text: t.Text}
	for _, p := range t.parts {
		d.Parts = append(d.Parts, p.plainDatum())
	}
	return d
}

func (t tree) isVar() bool { return t.symbol != nil && isVar(sample.Sym(t.symbol.text)) }
func (t tree) isEtc() bool { return t.symbol != nil && t.symbol.text == "etc" }

// elements are the elements of a list, or the parts of a vector, and what is behind them.
func (t tree) elements() (l []tree, tail tree) {
	if t.Kind == api.Vec {
		return t.parts, tree{}
	}
	for ; t.Kind == api.Pair; t = t.parts[1] {
		l = append(l, t.parts[0])
	}
	return l, t
}

// join makes a tree of elements, or parts, like another one.
func (t tree) join(l []tree, tail tree) tree {
	if t.Kind == api.Vec {
		return tree{Datum: api.Datum{Kind: api.Vec}, parts: l}
	}
	for _, p := range slices.Backward(l) {
		tail = tree{Datum: api.Datum{Kind: api.Pair}, parts: []tree{p, tail}}
	}
	return tail
}

func lookup(s *origin, at *chain) *bound {
	for ; at != nil; at = at.next {
		if at.symbol == s {
			return at.bound
		}
	}
	if s.from != nil {
		return lookup(s.from, s.at)
	}
	return nil
}

func fail(e api.Errno) { panic(e) }

func failIf(bad bool, e api.Errno) {
	if bad {
		fail(e)
	}
}

// arity is how many elements there are behind each word.
func arity() map[string]int {
	all := map[string]int{"quote": 1, "fn": 2, "if": 3, "let": 3, "rec": 3, "apply": 2, "handle": 2, "signal": 1, "mark": 2, "marks": 0, "emit": 1, "macro": 3}
	for _, w := range sample.Unary() {
		all[w] = 1
	}
	for _, w := range sample.Binary() {
		all[w] = 2
	}
	return all
}

func isWord(s string) bool {
	_, ok := arity()[s]
	return ok
}

func (x *apart) term(d tree, at *chain) api.Term {
	switch {
	case d.symbol != nil:
		return x.variable(d.symbol, at)
	case d.Kind == api.Vec:
		fail(api.ErrForm)
	case d.Kind != api.Pair:
		x.terms++
		return sample.Quote(d.plainDatum())
	}
	l, tail := d.elements()
	failIf(tail.Kind != api.Nil, api.ErrForm)
	head := l[0].symbol
	if head == nil {
		return x.call(l, at)
	}
	if n, ok := arity()[head.text]; ok {
		failIf(len(l)-1 < n, api.ErrFew)
		failIf(len(l)-1 > n, api.ErrMany)
		return x.form(head.text, l[1:], at)
	}
	if m := lookup(head, at); m != nil && m.macro {
		x.use(head, m)
		return x.term(x.replaced(m, d.parts[1], at), at)
	}
	return x.call(l, at)
}

func (x *apart) variable(s *origin, at *chain) api.Term {
	b := lookup(s, at)
	failIf(isWord(s.text) || b != nil && b.macro, api.ErrName)
	x.terms++
	if b != nil {
		return sample.Var(b.name)
	}
	return sample.Var(s.text)
}

func (x *apart) call(l []tree, at *chain) api.Term {
	failIf(len(l) > 7, api.ErrMany)
	x.terms++
	return api.Term{Op: api.App, Args: x.all(l, at)}
}

func (x *apart) all(l []tree, at *chain) []api.Term {
	var out []api.Term
	for _, d := range l {
		out = append(out, x.term(d, at))
	}
	return out
}

// name is the symbol of a name that is bound.
func name(d tree) *origin {
	failIf(d.symbol == nil, api.ErrForm)
	failIf(isWord(d.symbol.text), api.ErrName)
	return d.symbol
}

// bind makes a variable of a symbol. Names begin with # until all free names are known.
func (x *apart) bind(s *origin, at *chain) (string, *chain) {
	name := "#" + strconv.Itoa(len(x.made))
	x.made = append(x.made, name)
	return name, &chain{symbol: s, bound: &bound{name: name}, next: at}
}

func (x *apart) form(word string, l []tree, at *chain) api.Term {
	ops := map[string]int{"if": api.If, "apply": api.Apply, "handle": api.Handle, "signal": api.Signal, "mark": api.Mark, "marks": api.Marks, "emit": api.Emit}
	switch word {
	case "macro":
		return x.term(l[2], x.define(l, at))
	case "quote":
		x.terms++
		return sample.Quote(l[0].plainDatum())
	case "let":
		s := name(l[0])
		x.terms++
		t := api.Term{Op: api.Let}
		var in *chain
		t.Name, in = x.bind(s, at)
		value := x.term(l[1], at)
		t.Args = []api.Term{value, x.term(l[2], in)}
		return t
	case "fn":
		return x.function(api.Term{Op: api.Fn}, nil, l, at)
	case "rec":
		return x.function(api.Term{Op: api.Rec}, []*origin{name(l[0])}, l[1:], at)
	}
	x.terms++
	if op, ok := ops[word]; ok {
		return api.Term{Op: op, Args: x.all(l, at)}
	}
	return api.Term{Op: api.Prim, Name: word, Args: x.all(l, at)}
}

func (x *apart) function(t api.Term, own []*origin, l []tree, at *chain) api.Term {
	params, tail := l[0].elements()
	failIf(l[0].Kind == api.Vec || tail.Kind != api.Nil, api.ErrForm)
	failIf(len(params) > api.FnParams, api.ErrMany)
	all := own
	for _, p := range params {
		s := name(p)
		failIf(slices.Contains(all, s), api.ErrTwice)
		all = append(all, s)
	}
	x.terms++
	for i, s := range all {
		var name string
		name, at = x.bind(s, at)
		if i < len(own) {
			t.Name = name
			continue
		}
		t.Names = append(t.Names, name)
	}
	t.Args = []api.Term{x.term(l[1], at)}
	return t
}

func (x *apart) define(l []tree, at *chain) *chain {
	s := name(l[0])
	rules, tail := l[1].elements()
	failIf(l[1].Kind == api.Vec || tail.Kind != api.Nil, api.ErrForm)
	m := &bound{macro: true}
	var plain []api.MatchRule
	for _, r := range rules {
		two, tail := r.elements()
		failIf(r.Kind == api.Vec || tail.Kind != api.Nil || len(two) != 2, api.ErrForm)
		m.rules = append(m.rules, [2]tree{two[0], two[1]})
		plain = append(plain, api.MatchRule{Pattern: two[0].plainDatum(), Template: two[1].plainDatum()})
	}
	if e := match.CheckRules(plain); e != api.OK {
		fail(e)
	}
	m.at = &chain{symbol: s, bound: m, next: at}
	return m.at
}

func (x *apart) use(s *origin, m *bound) {
	failIf(len(x.used) == x.most, api.ErrLimit)
	x.used = append(x.used, s.text)
}

// replaced is what comes in the place of a use.
func (x *apart) replaced(m *bound, args tree, at *chain) tree {
	for _, r := range m.rules {
		found := x.match(r[0], args, m.at, at)
		if found == nil {
			continue
		}
		for name := range found {
			failIf(pieces(found[name].plainDatum()) > api.DatumSize, api.ErrLarge)
		}
		f := filling{apart: x, at: m.at, came: map[*origin]*origin{}}
		out := f.fill(r[1], depthsOf(r[0], 0, map[string]int{}), found)
		failIf(pieces(out.plainDatum()) > api.DatumSize, api.ErrLarge)
		return out
	}
	fail(api.ErrNone)
	return tree{}
}

// alike says whether a symbol of a use is one of a pattern.
func (x *apart) alike(p, d *origin, there, here *chain) bool {
	if p.text != d.text {
		return false
	}
	return x.plain || isWord(p.text) || lookup(p, there) == lookup(d, here)
}

// match is what variables stand for, or nil if a datum does not match.
func (x *apart) match(p, d tree, there, here *chain) map[string]tree {
	none := map[string]tree{}
	switch {
	case p.isVar():
		return map[string]tree{p.symbol.text: d}
	case p.symbol != nil:
		if d.symbol == nil || !x.alike(p.symbol, d.symbol, there, here) {
			return nil
		}
		return none
	case p.Kind != api.Pair && p.Kind != api.Vec:
		if d.symbol != nil || !same(p.plainDatum(), d.plainDatum()) {
			return nil
		}
		return none
	}
	if p.Kind == api.Vec && d.Kind != api.Vec {
		return nil
	}
	l, behind := p.elements()
	at := slices.IndexFunc(l, tree.isEtc)
	if at < 0 && p.Kind == api.Pair {
		if d.Kind != api.Pair {
			return nil
		}
		return both(x.match(p.parts[0], d.parts[0], there, here), x.match(p.parts[1], d.parts[1], there, here))
	}
	m, tail := d.elements()
	if p.Kind == api.Pair && d.Kind == api.Vec {
		m, tail = nil, d
	}
	if at < 0 {
		return x.each(l, m, there, here)
	}
	many := len(m) - len(l) + 2
	if many < 0 {
		return nil
	}
	out := both(x.each(l[:at-1], m[:at-1], there, here), x.each(l[at+1:], m[at-1+many:], there, here))
	if p.Kind == api.Pair {
		out = both(out, x.match(behind, tail, there, here))
	}
	return both(out, x.repeated(l[at-1], m[at-1:at-1+many], there, here))
}

func (x *apart) each(l, m []tree, there, here *chain) map[string]tree {
	if len(l) != len(m) {
		return nil
	}
	out := map[string]tree{}
	for i := range l {
		out = both(out, x.match(l[i], m[i], there, here))
	}
	return out
}

func (x *apart) repeated(part tree, l []tree, there, here *chain) map[string]tree {
	lists := map[string][]tree{}
	for _, d := range l {
		one := x.match(part, d, there, here)
		if one == nil {
			return nil
		}
		for name, v := range one {
			lists[name] = append(lists[name], v)
		}
	}
	out := map[string]tree{}
	for name := range depthsOf(part, 0, map[string]int{}) {
		out[name] = tree{}.join(lists[name], tree{})
	}
	return out
}

func both(a, b map[string]tree) map[string]tree {
	if a == nil || b == nil {
		return nil
	}
	for name, d := range b {
		a[name] = d
	}
	return a
}

// depthsOf says inside of how many repeated parts variables are.
func depthsOf(p tree, inside int, into map[string]int) map[string]int {
	if p.isVar() {
		into[p.symbol.text] = inside
	}
	l, tail := p.elements()
	for i, x := range l {
		if i+1 < len(l) && l[i+1].isEtc() {
			depthsOf(x, inside+1, into)
		} else {
			depthsOf(x, inside, into)
		}
	}
	if p.Kind == api.Pair {
		depthsOf(tail, inside, into)
	}
	return into
}

// filling fills the template of a macro that is defined somewhere.
type filling struct {
	*apart
	at   *chain
	came map[*origin]*origin
}

func (f filling) fill(t tree, deep map[string]int, found map[string]tree) tree {
	switch {
	case t.isVar():
		return found[t.symbol.text]
	case t.symbol != nil:
		return f.bring(t)
	case t.Kind != api.Pair && t.Kind != api.Vec:
		return t
	}
	l, tail := t.elements()
	var out []tree
	for i, x := range l {
		switch {
		case x.isEtc():
		case i+1 < len(l) && l[i+1].isEtc():
			out = append(out, f.repeat(x, deep, found)...)
		default:
			out = append(out, f.fill(x, deep, found))
		}
	}
	if t.Kind == api.Pair {
		tail = f.fill(tail, deep, found)
	}
	return t.join(out, tail)
}

func (f filling) bring(t tree) tree {
	if f.plain {
		return t
	}
	if f.came[t.symbol] == nil {
		f.came[t.symbol] = &origin{text: t.symbol.text, from: t.symbol, at: f.at}
	}
	return tree{Datum: t.Datum, symbol: f.came[t.symbol]}
}

func (f filling) repeat(part tree, deep map[string]int, found map[string]tree) []tree {
	lists := map[string][]tree{}
	many := -1
	for name := range depthsOf(part, 0, map[string]int{}) {
		if deep[name] > 0 {
			lists[name], _ = found[name].elements()
			failIf(many >= 0 && many != len(lists[name]), api.ErrClash)
			many = len(lists[name])
		}
	}
	var out []tree
	for i := range max(many, 0) {
		lower, one := map[string]int{}, map[string]tree{}
		for name, n := range deep {
			lower[name], one[name] = n, found[name]
			if l, ok := lists[name]; ok {
				lower[name], one[name] = n-1, l[i]
			}
		}
		out = append(out, f.fill(part, lower, one))
	}
	return out
}

// freeNames are the free names of a term in which those that are bound begin with #.
func freeNames(t api.Term, free []string) []string {
	if t.Op == api.Var && t.Name[0] != '#' {
		free = append(free, t.Name)
	}
	for _, a := range t.Args {
		free = freeNames(a, free)
	}
	return free
}

// finish gives the names v1, v2 and so on to what is bound, in the order in which it was met.
func (x *apart) finish(t *api.Term, free []string) {
	names := map[string]string{}
	n := 0
	for _, old := range x.made {
		n++
		for slices.Contains(free, "v"+strconv.Itoa(n)) {
			n++
		}
		names[old] = "v" + strconv.Itoa(n)
	}
	rename(t, names)
}

func rename(t *api.Term, names map[string]string) {
	if name, ok := names[t.Name]; ok {
		t.Name = name
	}
	for i, old := range t.Names {
		t.Names[i] = names[old]
	}
	for i := range t.Args {
		rename(&t.Args[i], names)
	}
}
