package match_test

import (
	"slices"
	"strconv"
	"strings"
	"testing"

	"caracole/api"
	"caracole/match"
	"caracole/sample"
)

var (
	num, sym, str, flag    = sample.Num, sample.Sym, sample.Str, sample.Bool
	pair, vec, wide, zeros = sample.Pair, sample.Vec, sample.Wide, sample.Zeros
	show, showAll          = sample.Show, sample.ShowAll
	read, readAll          = sample.Read, sample.ReadAll
	same, allPaths, follow = sample.Same, sample.Paths, sample.Follow
	toldOr, told           = sample.Told, sample.ToldDatum
)

func list(l ...api.Datum) api.Datum { return sample.List(api.Datum{}, l...) }

// toldSteps is a datum, and the number of a rule or of steps.
func toldSteps(d api.Datum, n int, e api.Errno) string {
	return toldOr(show(d)+", "+strconv.Itoa(n), e)
}

func toldVars(l []api.MatchVar, e api.Errno) string {
	var words []string
	for _, v := range l {
		words = append(words, v.Name+" "+strconv.Itoa(v.Depth))
	}
	return toldOr(strings.Join(words, "; "), e)
}

func toldBinds(l []api.MatchBind, e api.Errno) string {
	var words []string
	for _, b := range l {
		words = append(words, b.Name+" "+strconv.Itoa(b.Depth)+" "+show(b.Value))
	}
	return toldOr(strings.Join(words, "; "), e)
}

func toldPaths(l [][]int, e api.Errno) string {
	var words []string
	for _, path := range l {
		words = append(words, pathText(path))
	}
	return toldOr(strings.Join(words, "; "), e)
}

func pathText(path []int) string {
	words := []string{"@"}
	for _, i := range path {
		words = append(words, strconv.Itoa(i))
	}
	return strings.Join(words, " ")
}

// binds are read from a text as toldBinds makes it.
func binds(text string) []api.MatchBind {
	var l []api.MatchBind
	for one := range strings.SplitSeq(text, "; ") {
		words := strings.SplitN(one, " ", 3)
		if len(words) < 3 {
			continue
		}
		depth, _ := strconv.Atoi(words[1])
		l = append(l, api.MatchBind{Name: words[0], Depth: depth, Value: read(words[2])})
	}
	return l
}

// rules are read from a text of patterns and templates with "to" between them.
func rules(text string) []api.MatchRule {
	var l []api.MatchRule
	for one := range strings.SplitSeq(text, "; ") {
		if p, t, ok := strings.Cut(one, " to "); ok {
			l = append(l, api.MatchRule{Pattern: read(p), Template: read(t)})
		}
	}
	return l
}

// must is the result of a call that may not fail.
func must[T any](t *testing.T) func(x T, e api.Errno) T {
	return func(x T, e api.Errno) T {
		t.Helper()
		if e != api.OK {
			t.Fatal(e)
		}
		return x
	}
}

// isVar, isEtc, parts and the like are written apart from package match.
func isVar(d api.Datum) bool { return d.Kind == api.Sym && len(d.Text) > 1 && d.Text[0] == '?' }

func isEtc(d api.Datum) bool { return d.Kind == api.Sym && d.Text == "etc" }

// elements are the elements of a list, or the parts of a vector, and what is behind them: a vector has nothing there.
func elements(d api.Datum) (l []api.Datum, tail api.Datum) {
	if d.Kind == api.Vec {
		return d.Parts, tail
	}
	for ; d.Kind == api.Pair; d = d.Parts[1] {
		l = append(l, d.Parts[0])
	}
	return l, d
}

// depths are the variables of a pattern or a template with the number of repeated parts around each, the last one of a name.
func depths(p api.Datum, inside int, into map[string]int) map[string]int {
	if isVar(p) {
		into[p.Text] = inside
	}
	l, tail := elements(p)
	for i, x := range l {
		if n := len(l); i+1 < n && isEtc(l[i+1]) {
			depths(x, inside+1, into)
		} else {
			depths(x, inside, into)
		}
	}
	if p.Kind == api.Pair {
		depths(tail, inside, into)
	}
	return into
}

// standsFor is what variables stand for by the chapter, or nil if the datum does not match.
func standsFor(p, d api.Datum) map[string]api.Datum {
	switch {
	case isVar(p):
		return map[string]api.Datum{p.Text: d}
	case p.Kind != api.Pair && p.Kind != api.Vec:
		if same(p, d) {
			return map[string]api.Datum{}
		}
		return nil
	}
	l, behind := elements(p)
	at := slices.IndexFunc(l, isEtc)
	if at < 0 && p.Kind == api.Pair {
		if d.Kind != api.Pair {
			return nil
		}
		return both(standsFor(p.Parts[0], d.Parts[0]), standsFor(p.Parts[1], d.Parts[1]))
	}
	if p.Kind == api.Vec && d.Kind != api.Vec {
		return nil
	}
	m, tail := elements(d)
	if p.Kind == api.Pair && d.Kind == api.Vec {
		m, tail = nil, d
	}
	if at < 0 {
		return each(l, m)
	}
	front, part, back := l[:at-1], l[at-1], l[at+1:]
	many := len(m) - len(front) - len(back)
	if many < 0 {
		return nil
	}
	out := both(each(front, m[:len(front)]), each(back, m[len(front)+many:]))
	if p.Kind == api.Pair {
		out = both(out, standsFor(behind, tail))
	}
	return both(out, repeated(part, m[len(front):len(front)+many]))
}

func each(l, m []api.Datum) map[string]api.Datum {
	if len(l) != len(m) {
		return nil
	}
	out := map[string]api.Datum{}
	for i := range l {
		out = both(out, standsFor(l[i], m[i]))
	}
	return out
}

func repeated(part api.Datum, l []api.Datum) map[string]api.Datum {
	lists := map[string][]api.Datum{}
	for _, x := range l {
		one := standsFor(part, x)
		if one == nil {
			return nil
		}
		for name, d := range one {
			lists[name] = append(lists[name], d)
		}
	}
	out := map[string]api.Datum{}
	for name := range depths(part, 0, map[string]int{}) {
		out[name] = list(lists[name]...)
	}
	return out
}

func both(a, b map[string]api.Datum) map[string]api.Datum {
	if a == nil || b == nil {
		return nil
	}
	for name, d := range b {
		a[name] = d
	}
	return a
}

// bindsOf is what Match should return.
func bindsOf(p, d api.Datum) ([]api.MatchBind, api.Errno) {
	found := standsFor(p, d)
	if found == nil {
		return nil, api.ErrNone
	}
	deep := depths(p, 0, map[string]int{})
	var l []api.MatchBind
	for name, d := range found {
		l = append(l, api.MatchBind{Name: name, Depth: deep[name], Value: d})
	}
	slices.SortFunc(l, func(a, b api.MatchBind) int { return strings.Compare(a.Name, b.Name) })
	return l, api.OK
}

// chance makes patterns, templates and rules by chance.
type chance struct {
	*sample.Random
	free []string // variables that are not used yet
}

func newChance(seed uint64) *chance { return &chance{Random: sample.NewRandom(seed)} }

// pattern is a valid pattern, with parts in one another up to a depth. If each repeated part has to have variables, named is true.
func (c *chance) pattern(depth int, named bool) api.Datum {
	for {
		c.free = []string{"?a", "?b", "?c", "?d", "?e", "?f"}
		p := c.piece(depth, 0)
		if match.Check(p) == api.OK && (!named || allNamed(p)) {
			return p
		}
	}
}

func (c *chance) piece(depth, inside int) api.Datum {
	n := c.Below(12)
	switch {
	case (n < 3 || n > 9) && len(c.free) > 0 && inside <= 3:
		at := c.Below(len(c.free))
		name := c.free[at]
		c.free = slices.Delete(c.free, at, at+1)
		return sym(name)
	case depth == 0 || n < 5:
		return c.Leaf()
	}
	var l []api.Datum
	at := c.Below(4)
	for i := range c.Below(5) {
		if i == at {
			part := c.piece(depth-1, inside+1)
			l = append(l, part, sym("etc"))
			continue
		}
		l = append(l, c.piece(depth-1, inside))
	}
	if n == 5 {
		return vec(l...)
	}
	tail := api.Datum{}
	if len(l) > 0 && n == 6 {
		tail = c.piece(0, inside)
	}
	return sample.List(tail, l...)
}

// allNamed says whether all repeated parts of a pattern have variables.
func allNamed(p api.Datum) bool {
	l, _ := elements(p)
	for i, x := range l {
		if !allNamed(x) || i+1 < len(l) && isEtc(l[i+1]) && len(depths(x, 0, map[string]int{})) == 0 {
			return false
		}
	}
	return p.Kind != api.Pair || allNamed(p.Parts[1])
}

// like is a datum that matches a pattern.
func (c *chance) like(p api.Datum) api.Datum {
	if isVar(p) {
		return c.Datum(2)
	}
	if p.Kind != api.Pair && p.Kind != api.Vec {
		return p
	}
	l, behind := elements(p)
	var out []api.Datum
	for i, x := range l {
		switch {
		case isEtc(x):
		case i+1 < len(l) && isEtc(l[i+1]):
			for range c.Below(4) {
				out = append(out, c.like(x))
			}
		default:
			out = append(out, c.like(x))
		}
	}
	if p.Kind == api.Vec {
		return vec(out...)
	}
	tail := c.like(behind)
	for slices.ContainsFunc(l, isEtc) && tail.Kind == api.Pair {
		tail = c.like(behind)
	}
	return sample.List(tail, out...)
}

// near is a datum that often matches a pattern, and otherwise nearly does.
func (c *chance) near(p api.Datum) api.Datum {
	d := c.like(p)
	if c.Below(2) == 0 {
		return d
	}
	paths := allPaths(d)
	return put(d, paths[c.Below(len(paths))], c.Datum(1))
}

// put is a datum with x at a path.
func put(d api.Datum, path []int, x api.Datum) api.Datum {
	if len(path) == 0 {
		return x
	}
	d.Parts = slices.Clone(d.Parts)
	d.Parts[path[0]] = put(d.Parts[path[0]], path[1:], x)
	return d
}
