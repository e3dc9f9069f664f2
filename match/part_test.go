package match_test

import (
	"slices"
	"testing"

	"caracole/api"
	"caracole/match"
	"caracole/sample"
)

// TestExample is P5.4 for examples.
func TestExample(t *testing.T) {
	for text, want := range map[string]string{
		"?a": "()", "5": "5", "?": "?", "(?a . ?b)": "(())", "(1 ?a . 2)": "(1 () . 2)", "#(?a 1 #())": "#(() 1 #())", "(?a etc)": "()", "(?a etc . ?b)": "()", "(?a etc . 5)": "5", "(1 ?a etc 2)": "(1 2)", "(1 etc)": "()", "#(1 ?a etc)": "#(1)", "((?a (?b etc)) (?c ?d etc) etc)": "((() ()))", "(((?a etc) etc) . #(?b))": "(() . #(()))",
	} {
		if got := told(match.Example(read(text))); got != want {
			t.Error(text, got, "want", want)
		}
	}
}

// TestRename is P5.4 for names.
func TestRename(t *testing.T) {
	for _, x := range []struct{ p, a, b, want string }{
		{"?a", "?a", "?b", "?b"}, {"(?a ?b)", "?b", "?etc", "(?a ?etc)"}, {"(?a etc 1 . ?c)", "?a", "?b", "(?b etc 1 . ?c)"}, {"(?a etc 1 . ?c)", "?c", "?b", "(?a etc 1 . ?b)"}, {"#(((?a etc) etc) etc 1)", "?a", "?a?", "#(((?a? etc) etc) etc 1)"}, {"#(?ab ?a)", "?a", "?c", "#(?ab ?c)"},
		{"?a", "a", "?b", "error 2"}, {"?a", "?a", "b", "error 2"}, {"?a", "?a", "?", "error 2"}, {"?a", "?", "?b", "error 2"}, {"?a", "?a", "?B", "error 2"}, {"?a", "", "", "error 2"}, {"?a", "?a", "?abcdefghijklmnopqrst", "error 2"}, {"(?a b)", "?b", "b", "error 2"},
		{"?a", "?b", "?a", "error 10"}, {"?a", "?b", "?c", "error 10"}, {"1", "?a", "?a", "error 10"}, {"(? ?ab)", "?a", "?b", "error 10"},
		{"?a", "?a", "?a", "error 3"}, {"(?a (?b etc))", "?a", "?b", "error 3"}, {"(?a (?b etc))", "?b", "?a", "error 3"},
	} {
		if got := told(match.Rename(read(x.p), x.a, x.b)); got != x.want {
			t.Error(x.p, x.a, x.b, got, "want", x.want)
		}
	}
}

// TestEverywhere is P5.4 for places.
func TestEverywhere(t *testing.T) {
	for _, x := range []struct{ p, d, want string }{
		{"?a", "1", "@"}, {"1", "2", ""}, {"?a", "(1 . 2)", "@; @ 0; @ 1"}, {"1", "(1 (1) #(2 1))", "@ 0; @ 1 0 0; @ 1 1 0 1"}, {"()", "(1 (2))", "@ 1 0 1; @ 1 1"}, {"(?a etc)", "(1 (2 . 3))", "@; @ 1; @ 1 1"}, {"(1 ?a etc)", "(1 1 2 1)", "@; @ 1; @ 1 1 1"}, {"#(?a etc)", "#(1 #() (#(2)))", "@; @ 1; @ 2 0"}, {"(?a etc . ?b)", "(1)", "@; @ 0; @ 1"},
	} {
		if got := toldPaths(match.Everywhere(read(x.p), read(x.d))); got != x.want {
			t.Error(x.p, x.d, got, "want", x.want)
		}
	}
}

// TestPlaces is P5.16: there is a path just if the part there matches, and paths come in their order.
func TestPlaces(t *testing.T) {
	c := newChance(6)
	found := 0
	for i := range 1500 {
		p := c.pattern(i%4, false)
		d := c.Datum(2)
		for range 3 {
			paths := allPaths(d)
			d = put(d, paths[c.Below(len(paths))], c.near(p))
		}
		var want [][]int
		for _, path := range allPaths(d) {
			if _, e := match.Match(p, follow(d, path)); e == api.OK {
				want = append(want, path)
			}
			if standsFor(p, follow(d, path)) != nil {
				found++
			}
		}
		if got := must[[][]int](t)(match.Everywhere(p, d)); !slices.EqualFunc(got, want, slices.Equal) || !slices.IsSortedFunc(got, slices.Compare) {
			t.Error(show(p), show(d), got, want)
		}
	}
	if found < 2000 {
		t.Error(found)
	}
}

// TestBack is P5.7 and P5.8: a pattern, filled with what it stands for, is the datum, and this matches again.
func TestBack(t *testing.T) {
	c := newChance(7)
	for i := range 4000 {
		p := c.pattern(i%6, true)
		d := c.like(p)
		l, e := match.Match(p, d)
		if e != api.OK {
			t.Fatal(show(p), show(d), e)
		}
		back := must[api.Datum](t)(match.Fill(p, l))
		again, e := match.Match(p, back)
		if !same(back, d) || toldBinds(again, e) != toldBinds(l, api.OK) {
			t.Error(show(p), show(d), show(back), toldBinds(l, api.OK), toldBinds(again, e))
		}
	}
}

// TestExamplesMatch is P5.9: an example matches, with () or empty lists.
func TestExamplesMatch(t *testing.T) {
	c := newChance(8)
	for i := range 2000 {
		p := c.pattern(i%6, false)
		d := must[api.Datum](t)(match.Example(p))
		l, e := match.Match(p, d)
		vars := must[[]api.MatchVar](t)(match.Vars(p))
		if e != api.OK || len(l) != len(vars) {
			t.Error(show(p), show(d), e)
		}
		for k, b := range l {
			if !zero(b.Value) || b.Name != vars[k].Name || b.Depth != vars[k].Depth {
				t.Error(show(p), show(d), b)
			}
		}
	}
}

// TestNames is P5.10: another name for a variable changes nothing but this.
func TestNames(t *testing.T) {
	c := newChance(9)
	done := 0
	for i := range 3000 {
		p := c.pattern(i%5, false)
		vars := must[[]api.MatchVar](t)(match.Vars(p))
		if len(vars) == 0 {
			continue
		}
		a := vars[c.Below(len(vars))].Name
		b := []string{"?", "?a-", "?z"}[c.Below(3)] + "9"
		q := must[api.Datum](t)(match.Rename(p, a, b))
		d := c.near(p)
		l, e := match.Match(p, d)
		m, f := match.Match(q, d)
		if e != f || len(l) != len(m) {
			t.Error(show(p), show(q), show(d), e, f)
		}
		for _, x := range l {
			if x.Name == a {
				x.Name = b
			}
			if !slices.ContainsFunc(m, func(y api.MatchBind) bool { return sameBind(x, y) }) {
				t.Error(show(p), show(q), show(d), toldBinds(l, e), toldBinds(m, f))
			}
		}
		if back := must[api.Datum](t)(match.Rename(q, b, a)); !same(back, p) {
			t.Error(show(p), show(q), show(back))
		}
		done++
	}
	if done < 1000 {
		t.Error(done)
	}
}

func sameBind(a, b api.MatchBind) bool {
	return a.Name == b.Name && a.Depth == b.Depth && same(a.Value, b.Value)
}

// TestLiteral is P5.11: a pattern without variables and repeated parts matches itself alone.
func TestLiteral(t *testing.T) {
	r := sample.NewRandom(10)
	for range 1000 {
		p, d := r.Datum(3), r.Datum(4)
		if l, e := match.Match(p, p); e != api.OK || len(l) > 0 {
			t.Error(show(p), e, l)
		}
		want := api.ErrNone
		if same(p, d) {
			want = api.OK
		}
		if l, e := match.Match(p, d); e != want || len(l) > 0 {
			t.Error(show(p), show(d), e, l)
		}
		for _, path := range allPaths(p) {
			other := put(p, path, r.Leaf())
			if _, e := match.Match(p, other); (e == api.OK) != same(p, other) {
				t.Error(show(p), show(other), e)
			}
		}
	}
}

// TestLengths is P5.12: variables of one repeated part stand for lists of one length, and, if it is inside of others, for lists of lists of these lengths.
func TestLengths(t *testing.T) {
	c := newChance(11)
	met := 0
	for i := range 10000 {
		p := c.pattern(2+i%4, false)
		l, e := match.Match(p, c.like(p))
		if e != api.OK {
			t.Fatal(show(p), e)
		}
		values := map[string]api.Datum{}
		for _, b := range l {
			values[b.Name] = b.Value
		}
		for _, part := range repeatedParts(p, 0) {
			shapes := map[string]bool{}
			names := depths(part.d, 0, map[string]int{})
			for name := range names {
				shapes[shape(values[name], part.inside)] = true
			}
			if len(shapes) > 1 {
				t.Error(show(p), show(part.d), toldBinds(l, e))
			}
			if len(names) > 1 {
				met++
			}
		}
	}
	if met < 500 {
		t.Error(met)
	}
}

// shape is how many elements there are in lists of lists, as many levels deep.
func shape(d api.Datum, levels int) string {
	if levels == 0 {
		return "."
	}
	text := "("
	l, _ := elements(d)
	for _, x := range l {
		text += shape(x, levels-1)
	}
	return text + ")"
}

// repeatedPart is a repeated part of a pattern, and inside of how many it is, itself counted.
type repeatedPart struct {
	d      api.Datum
	inside int
}

func repeatedParts(p api.Datum, inside int) []repeatedPart {
	var out []repeatedPart
	l, tail := elements(p)
	for i, x := range l {
		deep := inside
		if i+1 < len(l) && isEtc(l[i+1]) {
			deep++
			out = append(out, repeatedPart{d: x, inside: deep})
		}
		out = append(out, repeatedParts(x, deep)...)
	}
	if p.Kind == api.Pair {
		out = append(out, repeatedParts(tail, inside)...)
	}
	return out
}
