package expand

import (
	"caracole/api"
	"caracole/guard"
	"caracole/match"
	"caracole/pattern"
	"caracole/plain"
)

// macro is a macro at work.
type macro struct {
	name  string
	rules []rule
	homes map[symbol]meaning // what the symbols in its rules stand for where it is defined
}

// rule is a rule at work.
type rule struct {
	pattern.Pattern
	vars     []api.MatchVar
	template api.Datum
}

// define reads the front of a form that defines a macro.
func (x *expander) define(l []api.Datum) bond {
	switch n := len(l) - 1; {
	case n < 3:
		guard.Fail(api.ErrFew)
	case n > 3:
		guard.Fail(api.ErrMany)
	case l[1].Kind != api.Sym:
		guard.Fail(api.ErrForm)
	}
	s := x.symbol(l[1].Text)
	if isWord(s.text) {
		guard.Fail(api.ErrName)
	}
	// All variables, and all etc, are of the program, so CheckRules sees the texts that matter to it.
	rules := rulesOf(l[2])
	guard.Check(match.CheckRules(rules))
	m := &macro{name: x.unused(), homes: map[symbol]meaning{}}
	for name := range names(l[2]) {
		t := x.symbol(name)
		m.homes[t] = x.stands(t)
	}
	m.homes[s] = m // the rules are inside of its own form
	m.rules = plain.Each(rules, func(r api.MatchRule) rule {
		return rule{Pattern: pattern.Of(r.Pattern, x.literals(m)), vars: guard.Get(match.Vars(r.Pattern)), template: r.Template}
	})
	return bond{symbol: s, meaning: m}
}

// rulesOf returns the rules that a datum is, and fails unless it is a list of lists of two.
func rulesOf(d api.Datum) []api.MatchRule {
	return plain.Each(elements(d), func(d api.Datum) api.MatchRule {
		l := elements(d)
		if len(l) != 2 {
			guard.Fail(api.ErrForm)
		}
		return api.MatchRule{Pattern: l[0], Template: l[1]}
	})
}

// elements returns the elements of a list as they stand in it, and fails if a datum is none.
func elements(d api.Datum) []api.Datum {
	l, tail := plain.Elements(d)
	if tail.Kind != api.Nil {
		guard.Fail(api.ErrForm)
	}
	return l
}

// literals returns what says whether a datum in a use is what a piece of a pattern stands for, which is no variable.
func (x *expander) literals(m *macro) func(p, d api.Datum) bool {
	if x.mode == byText {
		return plain.Equal
	}
	return func(p, d api.Datum) bool {
		if p.Kind != api.Sym || d.Kind != api.Sym {
			return plain.Equal(p, d)
		}
		there, here := x.symbol(p.Text), x.symbol(d.Text)
		return there.text == here.text && m.homes[there].binding() == x.stands(here).binding()
	}
}

// use takes a step: it returns what comes in the place of a use.
func (x *expander) use(m *macro, d api.Datum) api.Datum {
	if len(x.uses) == x.most {
		guard.Fail(api.ErrLimit)
	}
	name, args := d.Parts[0].Text, d.Parts[1]
	x.uses = append(x.uses, x.text(name))
	r := m.rule(args)
	return guard.Get(match.Fill(x.template(m, r), pattern.Binds(r.Pattern, r.vars, args)))
}

// rule returns the first rule that matches.
func (m *macro) rule(d api.Datum) rule {
	at := 0
search:
	for {
		switch {
		case at == len(m.rules):
			guard.Fail(api.ErrNone)
		case m.rules[at].Fits(d):
			break search
		}
		at++
	}
	return m.rules[at]
}

// template returns the template of a rule with new symbols in the place of its own.
func (x *expander) template(m *macro, r rule) api.Datum {
	if x.mode == byText {
		return r.template
	}
	brought := map[string]string{}
	return renamed(r.template, func(name string) string {
		s := x.symbol(name)
		if pattern.SortOfSymbol(s.text) != pattern.Literal || isWord(s.text) {
			return name
		}
		if _, ok := brought[name]; !ok {
			brought[name] = x.bring(s.text, m.homes[s])
		}
		return brought[name]
	})
}
