package match

import (
	"caracole/api"
	"caracole/datum"
	"caracole/guard"
	"caracole/pattern"
	"caracole/plain"
)

// checkPattern fails with the first error of a pattern.
func checkPattern(p api.Datum) {
	guard.Check(datum.Check(p))
	met := map[string]bool{}
	for x := range pieces(p) {
		switch pattern.SortOf(x.Datum) {
		case pattern.Ellipsis:
			x.checkPlace()
		case pattern.Vector, pattern.List:
			x.checkEtc()
		case pattern.Variable:
			x.checkVariable(met)
		}
	}
}

func (p piece) checkPlace() {
	if p.isLoneEtc() {
		guard.Fail(api.ErrForm)
	}
}

// checkEtc fails if a list, or a vector, has more than one etc. One of them that stands by itself comes first, though it is a piece behind this one.
func (p piece) checkEtc() {
	count := 0
	for _, x := range elements(p.Datum) {
		if pattern.IsEtc(x) {
			count++
		}
	}
	if count < 2 {
		return // one that stands by itself fails when it is its turn
	}
	for _, x := range p.parts() {
		x.checkPlace()
	}
	guard.Fail(api.ErrMany)
}

func (p piece) checkVariable(met map[string]bool) {
	if met[p.Text] {
		guard.Fail(api.ErrTwice)
	}
	met[p.Text] = true
	if p.inside > api.MatchDeep {
		guard.Fail(api.ErrLarge)
	}
}

// checkTemplate fails with the first error of a template.
func checkTemplate(t api.Datum) {
	guard.Check(datum.Check(t))
	for x := range pieces(t) {
		x.checkPlace()
	}
}

// checkBinds fails with the first error of binds.
func checkBinds(l []api.MatchBind) {
	for i, b := range l {
		switch {
		case !IsVar(b.Name):
			guard.Fail(api.ErrName)
		case i > 0 && b.Name <= l[i-1].Name:
			guard.Fail(api.ErrOrder)
		case b.Depth < 0 || b.Depth > api.MatchDeep:
			guard.Fail(api.ErrValue)
		}
		guard.Check(datum.Check(b.Value))
		checkLevels(b.Value, b.Depth)
	}
}

// checkLevels fails unless a datum is a list, of lists, and so on, as deep as that.
func checkLevels(d api.Datum, depth int) {
	if depth == 0 {
		return
	}
	l, tail := plain.Elements(d)
	if tail.Kind != api.Nil {
		guard.Fail(api.ErrKind)
	}
	for _, x := range l {
		checkLevels(x, depth-1)
	}
}

// checkRules fails with the first error of a list of rules.
func checkRules(rules []api.MatchRule) {
	if len(rules) > api.MatchRules {
		guard.Fail(api.ErrMany)
	}
	for _, r := range rules {
		checkPattern(r.Pattern)
		checkTemplate(r.Template)
		known := depths{}
		for v := range variables(r.Pattern) {
			known[v.Text] = v.inside
		}
		known.checkNames(r.Template)
		known.checkDepths(r.Template)
	}
}

// depths says how deep variables are.
type depths map[string]int

// checkNames fails unless each variable of a template is there.
func (d depths) checkNames(t api.Datum) {
	for v := range variables(t) {
		if _, ok := d[v.Text]; !ok {
			guard.Fail(api.ErrName)
		}
	}
}

// checkDepths fails unless a template can be filled, whatever its variables stand for.
func (d depths) checkDepths(t api.Datum) {
	for x := range pieces(t) {
		if x.repeated && !d.repeats(x) {
			guard.Fail(api.ErrNone)
		}
		if pattern.SortOf(x.Datum) == pattern.Variable && d[x.Text] > x.inside {
			guard.Fail(api.ErrKind)
		}
	}
}

// repeats says whether a repeated part has a variable with a list left for it, behind the parts around it.
func (d depths) repeats(part piece) bool {
	for v := range variables(part.Datum) {
		if d[v.Text] >= part.inside {
			return true
		}
	}
	return false
}
