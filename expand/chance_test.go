package expand_test

import (
	"slices"
	"strings"

	"caracole/api"
	"caracole/match"
	"caracole/sample"
)

// chance makes programs by chance. There are few names, so that those of templates and of programs, of variables and of macros are often the same.
type chance struct {
	*sample.Random
	names    []string // that are bound, free, or literals of patterns
	macros   []known  // those around
	fill     []string // variables of the rule that is being made
	template bool     // whether a template is being made
	faults   bool     // whether there may be errors
	closed   bool     // whether there are no macros but those around
}

// known is a macro with the patterns of its rules.
type known struct {
	name     string
	patterns []api.Datum
}

func newChance(seed uint64) chance {
	return chance{Random: sample.NewRandom(seed), names: []string{"x", "x", "y", "t", "t", "f", "m", "v1", "etc"}}
}

func (c *chance) oneOf(l ...string) string { return l[c.Below(len(l))] }

// program is a program with parts in one another.
func (c *chance) program() api.Datum {
	c.macros, c.fill, c.template = nil, nil, false
	d := c.define(2 + c.Below(4))
	if c.faults && c.Below(2) == 0 {
		paths := allPaths(d)
		d = put(d, paths[c.Below(len(paths))], c.fault())
	}
	return d
}

// fault is something that is often wrong where it comes to be.
func (c *chance) fault() api.Datum {
	return read(c.oneOf("if", "macro", "#(1)", "(x . y)", "()", "m", "(f)", "?a", "etc", "x", "5", "(macro)", "(let x)", "(?a ?a)", "(f 1 2 3 4 5 6 7)", "(fn (x x) x)", "(car)", "(quote)"))
}

// put is a datum with x at a path.
func put(d api.Datum, path []int, x api.Datum) api.Datum {
	if len(path) == 0 {
		return x
	}
	d.Parts = slices.Clone(d.Parts)
	d.Parts[path[0]] = put(d.Parts[path[0]], path[1:], x)
	return d
}

func (c *chance) datum(depth int) api.Datum {
	n := c.Below(24)
	switch {
	case depth == 0 || n < 4:
		return c.leaf()
	case n < 6:
		return list(sym("fn"), c.params(), c.datum(depth-1))
	case n < 8:
		value := c.datum(depth - 1)
		return list(sym("let"), c.binder(), value, c.datum(depth-1))
	case n < 9:
		name := c.binder()
		return list(sym("rec"), name, c.params(), c.datum(depth-1))
	case n < 11:
		word := c.oneOf("if", "cons", "signal", "marks", "car")
		return list(append([]api.Datum{sym(word)}, c.some(arity()[word], depth)...)...)
	case n < 13:
		return list(append([]api.Datum{c.leaf()}, c.repeated(depth)...)...)
	case n < 18 && !c.closed && (!c.template || c.Below(4) == 0):
		return c.define(depth)
	}
	return c.use(depth)
}

// some is as many data.
func (c *chance) some(n, depth int) []api.Datum {
	var l []api.Datum
	for range n {
		l = append(l, c.datum(depth-1))
	}
	return l
}

// repeated is a few data, repeated parts among them.
func (c *chance) repeated(depth int) []api.Datum {
	l := c.some(c.Below(3), depth)
	for _, v := range c.fill {
		if strings.HasPrefix(v, "?l") && c.Below(2) == 0 {
			l = append(l, sym(v), sym("etc"))
		}
	}
	return l
}

func (c *chance) leaf() api.Datum {
	if len(c.fill) > 0 && c.Below(5) < 3 {
		return sym(c.fill[c.Below(len(c.fill))])
	}
	switch c.Below(8) {
	case 0:
		return read(c.oneOf("1", "#t", `"s"`, "()"))
	case 1:
		return list(sym("quote"), sym(c.oneOf(c.names...)))
	}
	s := c.oneOf(c.names...)
	for c.isMacro(s) && c.Below(20) > 0 || c.template && s == "etc" {
		s = c.oneOf(c.names...)
	}
	return sym(s)
}

func (c *chance) isMacro(s string) bool {
	return slices.ContainsFunc(c.macros, func(k known) bool { return k.name == s })
}

// binder is a name that is bound.
func (c *chance) binder() api.Datum {
	if slices.Contains(c.fill, "?x") && c.Below(2) == 0 {
		return sym("?x")
	}
	s := c.oneOf(c.names...)
	for c.template && s == "etc" {
		s = c.oneOf(c.names...)
	}
	return sym(s)
}

func (c *chance) params() api.Datum {
	var l []api.Datum
	for range c.Below(3) {
		x := c.binder()
		if !slices.ContainsFunc(l, func(y api.Datum) bool { return same(x, y) }) || c.Below(9) == 0 {
			l = append(l, x)
		}
	}
	return list(l...)
}

// front is a form that defines a macro, but for the datum inside of it, and the macro, which is not around yet.
func (c *chance) front() (api.Datum, known) {
	k := known{name: c.oneOf("m", "k", "n", "x")}
	var rules []api.Datum
	around := c.macros
	for range 1 + c.Below(3) {
		p := c.pattern()
		k.patterns = append(k.patterns, p)
		c.macros = append(slices.Clone(around), k)
		rules = append(rules, list(p, c.templateOf(p)))
	}
	c.macros = around
	return list(sym("macro"), sym(k.name), list(rules...)), k
}

// define is a form that defines a macro around a datum.
func (c *chance) define(depth int) api.Datum {
	around := c.macros
	front, k := c.front()
	c.macros = append(slices.Clone(around), k)
	body := c.datum(depth - 1)
	switch c.Below(6) {
	case 0:
	case 1:
		body = list(sym("let"), c.binder(), body, c.use(depth))
	case 2:
		body = list(sym("fn"), c.params(), c.use(depth))
	default:
		body = c.use(depth)
	}
	c.macros = around
	return inside(front, body)
}

// inside is a form with a datum behind all others in it.
func inside(front, d api.Datum) api.Datum {
	l, _ := elements(front)
	return list(append(slices.Clone(l), d)...)
}

// pattern is one of some patterns. Inside of a template there are no variables in it.
func (c *chance) pattern() api.Datum {
	text := c.oneOf("()", "(L)", "(L etc)", "(L . L)")
	if !c.template {
		text = c.oneOf("()", "(?a)", "(?a ?b)", "(?a ?l etc)", "(?x ?e ?b)", "((?x ?e) ?b)", "(L ?a)", "(?a L ?b)", "(((?x ?l) etc) ?b)", "?a", "((L ?l) etc)", "(L . ?a)", "(#(?l etc) ?a)", "(?l etc ?a . ?r)", "(L etc ?x ?a)", "(?l etc)", "(((((L etc) etc) etc) etc) ?a)", "(?a (L ?b))")
	}
	for strings.Contains(text, "L") {
		text = strings.Replace(text, "L", c.oneOf("x", "y", "t", "m", "f", "if", "else"), 1)
	}
	return read(text)
}

// templateOf is a template for a pattern.
func (c *chance) templateOf(p api.Datum) api.Datum {
	fill, template := c.fill, c.template
	defer func() { c.fill, c.template = fill, template }()
	c.template = true
	for _, s := range texts(p) {
		if isVar(sym(s)) {
			c.fill = append(slices.Clone(c.fill), s)
		}
	}
	for range 12 {
		t := c.datum(1 + c.Below(3))
		if c.Below(2) == 0 {
			t = list(sym("let"), c.binder(), c.leaf(), t)
		}
		// A rule in a template is checked when this is filled.
		if template || match.CheckRules([]api.MatchRule{{Pattern: p, Template: t}}) == api.OK {
			return t
		}
	}
	return num(7)
}

// use is a use of a macro around, or a call.
func (c *chance) use(depth int) api.Datum {
	if len(c.macros) == 0 || depth == 0 || c.template && c.Below(3) > 0 {
		return c.leaf() // uses in templates often come to no end
	}
	k := c.macros[c.Below(len(c.macros))]
	if len(k.patterns) == 0 {
		return c.leaf()
	}
	args := c.like(k.patterns[c.Below(len(k.patterns))], depth)
	if c.Below(20) == 0 {
		args = list(c.some(c.Below(4), depth)...)
	}
	return sample.Pair(sym(k.name), args)
}

// like is a datum that matches a pattern.
func (c *chance) like(p api.Datum, depth int) api.Datum {
	switch {
	case isVar(p) && p.Text == "?x":
		return c.binder()
	case isVar(p) && p.Text == "?r":
		return api.Datum{}
	case isVar(p):
		return c.datum(depth - 1)
	case p.Kind == api.Vec:
		return vec(c.likeEach(p.Parts, depth)...)
	case p.Kind != api.Pair:
		return p
	}
	l, tail := elements(p)
	rest := c.like(tail, depth)
	if isVar(tail) && tail.Text != "?r" {
		rest = list(c.some(c.Below(3), depth)...)
	}
	return sample.List(rest, c.likeEach(l, depth)...)
}

func (c *chance) likeEach(l []api.Datum, depth int) []api.Datum {
	var out []api.Datum
	for i, x := range l {
		switch {
		case isEtc(x):
		case i+1 < len(l) && isEtc(l[i+1]):
			for range c.Below(3) {
				out = append(out, c.like(x, depth))
			}
		default:
			out = append(out, c.like(x, depth))
		}
	}
	return out
}
