package match

import (
	"iter"
	"slices"

	"caracole/api"
	"caracole/datum"
	"caracole/guard"
	"caracole/pattern"
	"caracole/plain"
)

// rewriter is a rule at work.
type rewriter struct {
	pattern.Pattern
	vars     []api.MatchVar
	template api.Datum
}

func rulesAtWork(rules []api.MatchRule) []rewriter {
	return plain.Each(rules, func(r api.MatchRule) rewriter {
		return rewriter{Pattern: atWork(r.Pattern), vars: vars(r.Pattern), template: r.Template}
	})
}

// rewrite returns what a rule makes of a datum that its pattern matches.
func (r rewriter) rewrite(d api.Datum) api.Datum {
	return fill(r.template, bindsOf(r.Pattern, r.vars, d))
}

// walker goes through the parts of a datum.
type walker struct {
	path  []int
	yield func(path []int, part api.Datum) bool
}

// parts yields all parts of a datum in the order of their paths. A path is good until the next part comes.
func parts(d api.Datum) iter.Seq2[[]int, api.Datum] {
	return func(yield func([]int, api.Datum) bool) {
		w := walker{yield: yield}
		w.visit(d)
	}
}

func (w *walker) visit(d api.Datum) bool {
	n := len(w.path)
	// Behind three indices an append to what is yielded cannot reach the walker's own path.
	if !w.yield(w.path[:n:n], d) {
		return false
	}
	for i, part := range d.Parts {
		w.path = append(w.path[:n], i)
		if !w.visit(part) {
			return false
		}
	}
	return true
}

// spot is a part of a datum, and the rule whose pattern it matches.
type spot struct {
	rewriter
	path []int
	part api.Datum
}

// first finds the first part that matches a rule.
func first(rules []rewriter, d api.Datum) (s spot, ok bool) {
search:
	for path, part := range parts(d) {
		for _, r := range rules {
			if r.Fits(part) {
				s, ok = spot{rewriter: r, path: slices.Clone(path), part: part}, true
				break search
			}
		}
	}
	return s, ok
}

// sweep rewrites a datum until no part matches any rule, and returns how many steps there were.
func sweep(rules []rewriter, d api.Datum, most int) (out api.Datum, steps int) {
next:
	if s, ok := first(rules, d); ok {
		if steps == most {
			guard.Fail(api.ErrLimit)
		}
		d = guard.Get(datum.Put(d, s.path, s.rewrite(s.part)))
		steps++
		goto next
	}
	return d, steps
}
