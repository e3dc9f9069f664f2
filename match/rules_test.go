package match_test

import (
	"slices"
	"testing"

	"caracole/api"
	"caracole/datum"
	"caracole/match"
	"caracole/sample"
)

// memory is the places in memory where slices begin that belong to something.
type memory map[any]bool

// add fails if a slice of some data is one that is known.
func (m memory) add(t *testing.T, all ...api.Datum) {
	t.Helper()
	for _, d := range all {
		if cap(d.Parts) > 0 {
			m.slice(t, &d.Parts[:1][0], d)
		}
		m.add(t, d.Parts...)
	}
}

func (m memory) slice(t *testing.T, first any, d api.Datum) {
	t.Helper()
	if m[first] {
		t.Error("memory is shared at", show(d))
	}
	m[first] = true
}

func (m memory) binds(t *testing.T, l []api.MatchBind) {
	t.Helper()
	for _, b := range l {
		m.add(t, b.Value)
	}
}

func (m memory) paths(t *testing.T, l [][]int) {
	t.Helper()
	for _, path := range l {
		if cap(path) > 0 {
			m.slice(t, &path[:1][0], list())
		}
	}
}

// TestMemory: no result shares memory with an argument, with another one, nor with itself (R4).
func TestMemory(t *testing.T) {
	get := must[api.Datum](t)
	c := newChance(14)
	for i := range 500 {
		p := c.pattern(i%5, true)
		d := c.like(p)
		m := memory{}
		m.add(t, p, d)
		l, e := match.Match(p, d)
		if e != api.OK {
			t.Fatal(e)
		}
		m.binds(t, l)
		again, _ := match.Match(p, d)
		m.binds(t, again)
		m.add(t, get(match.Fill(p, l)), get(match.Fill(p, l)), get(match.Example(p)))
		paths, _ := match.Everywhere(p, d)
		m.paths(t, paths)
		for _, b := range l {
			m.add(t, get(match.Rename(p, b.Name, "?z")))
		}
		rule := []api.MatchRule{{Pattern: p, Template: p}}
		out, _, e := match.Rewrite(rule, d)
		m.add(t, get(out, e))
		kept, _, e := match.Sweep(nil, d, 9)
		m.add(t, get(kept, e))
		if swept, _, e := match.Sweep([]api.MatchRule{{Pattern: d, Template: vec(vec(num(7)))}}, vec(d, d), 9); e == api.OK {
			m.add(t, swept)
		}
	}
	// What is filled in twice is there twice.
	m := memory{}
	d := read("((1 2) #(3) (4))")
	m.add(t, d, get(match.Fill(read("(?a ?a (?b ?a) etc)"), []api.MatchBind{{Name: "?a", Value: d}, {Name: "?b", Depth: 1, Value: list(d, d)}})))
	if show(d) != "((1 2) #(3) (4))" {
		t.Error(show(d))
	}
	// The memory of a list without elements is memory, too.
	hollow := api.Datum{Parts: make([]api.Datum, 0, 3)}
	l, _ := match.Match(read("(?a ?b etc)"), list(hollow, hollow))
	example := get(match.Example(hollow))
	for _, x := range []api.Datum{l[0].Value, l[1].Value.Parts[0], example, get(match.Fill(hollow, nil)), get(match.Fill(sym("?a"), []api.MatchBind{{Name: "?a", Value: hollow}}))} {
		if cap(x.Parts) > 0 {
			t.Error("memory is shared")
		}
	}
}

// TestPathsApart: paths can be appended to and changed without an effect on each other (R4).
func TestPathsApart(t *testing.T) {
	p, d := num(1), read("((1 1) (1 (1 1)) 1)")
	want, _ := match.Everywhere(p, d)
	got, _ := match.Everywhere(p, d)
	for i := range got {
		got[i] = append(got[i], 99)
		for k := range i {
			got[k][0] = -1
		}
		if len(want) != len(got) || !slices.Equal(got[i][:len(want[i])], want[i]) {
			t.Error(i, got[i], want[i])
		}
	}
}

// everything is what all functions return for some arguments.
func everything(p, d api.Datum, l []api.MatchBind, rules []api.MatchRule, most int) []string {
	return []string{
		toldOr("", match.Check(p)), toldOr("", match.CheckBinds(l)), toldOr("", match.CheckRules(rules)), toldVars(match.Vars(p)), toldBinds(match.Match(p, d)), told(match.Fill(p, l)), told(match.Fill(d, l)), told(match.Example(p)),
		told(match.Rename(p, "?a", "?z")), toldPaths(match.Everywhere(p, d)), toldSteps(match.Rewrite(rules, d)), toldSteps(match.Sweep(rules, d, most)),
	}
}

// argumentsText is all that can be seen of some arguments.
func argumentsText(p, d api.Datum, l []api.MatchBind, rules []api.MatchRule) string {
	text := show(p) + show(d) + toldBinds(l, api.OK)
	for _, r := range rules {
		text += show(r.Pattern) + show(r.Template)
	}
	return text
}

// TestArgumentsStay: arguments are not changed, and calls with the same ones return the same (R2, R4).
func TestArgumentsStay(t *testing.T) {
	c := newChance(15)
	for i := range 500 {
		p := c.pattern(i%5, false)
		d := c.near(p)
		l := someBinds(c.Random)
		rules := append(someRules(c), api.MatchRule{Pattern: p, Template: num(1)})
		before := argumentsText(p, d, l, rules)
		first := everything(p, d, l, rules, i%10)
		again := everything(sample.Copy(p), sample.Copy(d), slices.Clone(l), slices.Clone(rules), i%10)
		if after := argumentsText(p, d, l, rules); after != before || !slices.Equal(first, again) {
			t.Error(before, after, first, again)
		}
	}
}

// TestSpareMemory: what lies in memory behind a slice is neither seen nor written (R4).
func TestSpareMemory(t *testing.T) {
	bad := api.Datum{Kind: 99}
	store := []api.Datum{sym("?a"), sym("etc"), num(3), bad}
	p := api.Datum{Kind: api.Vec, Parts: store[:2]}
	l := []api.MatchBind{{Name: "?a", Depth: 1, Value: read("(1 2)")}, {Name: "x"}}
	rules := []api.MatchRule{{Pattern: p, Template: p}, {Pattern: bad}}
	got := everything(p, read("#(1)"), l[:1], rules[:1], 3)
	want := everything(read("#(?a etc)"), read("#(1)"), binds("?a 1 (1 2)"), []api.MatchRule{{Pattern: read("#(?a etc)"), Template: read("#(?a etc)")}}, 3)
	if !slices.Equal(got, want) || store[0].Text != "?a" || store[1].Text != "etc" || store[2].Num != 3 || store[3].Kind != 99 || l[1].Name != "x" || rules[1].Pattern.Kind != 99 {
		t.Error(got, want, store)
	}
}

// TestEmptyAndNil: a nil slice and an empty one mean the same (R4).
func TestEmptyAndNil(t *testing.T) {
	a, b := api.Datum{Kind: api.Vec}, api.Datum{Kind: api.Vec, Parts: []api.Datum{}}
	for _, x := range [][2]api.Datum{{a, b}, {b, a}, {list(a, sym("etc")), list(b, b)}} {
		if l, e := match.Match(x[0], x[1]); e != api.OK || len(l) > 0 {
			t.Error(l, e)
		}
	}
	if got, want := everything(a, b, nil, nil, 0), everything(b, a, []api.MatchBind{}, []api.MatchRule{}, 0); !slices.Equal(got, want) {
		t.Error(got, want)
	}
	if d, e := match.Fill(list(api.Datum{Kind: api.Num, Num: 1, Parts: []api.Datum{}}), nil); told(d, e) != "(1)" {
		t.Error(told(d, e))
	}
}

// wild makes a datum with any fields.
func wild(r *sample.Random, depth int) api.Datum {
	if r.Below(3) > 0 {
		return rough(r, depth)
	}
	d := api.Datum{Kind: r.Below(9) - 1}
	if r.Below(5) == 0 {
		d.Num = r.Below(5) - 2
	}
	if r.Below(5) == 0 {
		d.Text = []string{"?a", "A", "etc", "\n", "?"}[r.Below(5)]
	}
	if depth > 0 {
		for range 2 + r.Below(3)/2 {
			d.Parts = append(d.Parts, wild(r, depth-1))
		}
	}
	return d
}

// ring is a datum that is a part of itself.
func ring() api.Datum {
	d := vec(sym("?a"), sym("etc"), num(1))
	d.Parts[2] = d
	return d
}

// TestAnyValue: functions return whatever the fields of their arguments are, with zero values beside an error (P1, R3, R5).
func TestAnyValue(t *testing.T) {
	r := sample.NewRandom(16)
	for i := range 5000 {
		p, d := wild(r, 3), wild(r, 2)
		if i%500 == 0 {
			p = ring()
		}
		l := []api.MatchBind{{Name: []string{"?a", "?b", "x"}[r.Below(3)], Depth: r.Below(6) - 1, Value: wild(r, 2)}, {Name: "?c", Depth: r.Below(2), Value: wild(r, 1)}}
		rules := []api.MatchRule{{Pattern: p, Template: wild(r, 2)}, {Pattern: wild(r, 1), Template: d}}
		most := r.Below(12) - 1
		if e := match.CheckBinds(l); e == api.OK && !slices.IsSortedFunc(l, func(a, b api.MatchBind) int { return slices.Compare([]byte(a.Name), []byte(b.Name)) }) {
			t.Error(l)
		}
		vars, e := match.Vars(p)
		none(t, e, len(vars) == 0)
		found, e := match.Match(p, d)
		none(t, e, len(found) == 0)
		if e == api.OK && match.CheckBinds(found) != api.OK {
			t.Error(show(p), show(d), toldBinds(found, e))
		}
		paths, e := match.Everywhere(p, d)
		none(t, e, len(paths) == 0)
		filled, e := match.Fill(p, l)
		valid(t, filled, e)
		example, e := match.Example(p)
		valid(t, example, e)
		renamed, e := match.Rename(p, l[0].Name, "?z")
		valid(t, renamed, e)
		out, rule, e := match.Rewrite(rules, d)
		valid(t, out, e)
		none(t, e, rule == 0)
		swept, steps, e := match.Sweep(rules, d, most)
		valid(t, swept, e)
		none(t, e, steps == 0)
	}
}

// none fails if there is an error that there cannot be, or one beside something else than zero values.
func none(t *testing.T, e api.Errno, zero bool) {
	t.Helper()
	if e < api.OK || e > api.ErrOrder || e != api.OK && !zero {
		t.Error(e, zero)
	}
}

// valid fails unless a datum is valid, or a zero value beside an error.
func valid(t *testing.T, d api.Datum, e api.Errno) {
	t.Helper()
	none(t, e, zero(d))
	if datum.Check(d) != api.OK {
		t.Error(d)
	}
}
