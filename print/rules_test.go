package print_test

import (
	"slices"
	"strings"
	"testing"

	"caracole/api"
	"caracole/print"
	"caracole/sample"
)

// TestMemory: no result shares memory with an argument, with another one, nor with itself (R4).
func TestMemory(t *testing.T) {
	for _, text := range []string{"(a (b #(c 'd) . e) #(1 2 3))", "#(#() () (1 . 2) ''x)"} {
		d, _, _ := print.Read(text)
		again, _, _ := print.Read(text)
		all, _, _ := print.ReadAll(text + text)
		was := plain(again)
		scribble(d)
		scribble(all[0])
		if plain(again) != was || plain(all[1]) != was {
			t.Error(plain(again), plain(all[1]), "want", was)
		}
		apart(t, again)
		apart(t, all[1])
	}
	g, _, _ := print.ReadGraph("#0=(a #(b #0#) . #1=(c . #1#))")
	was := graphText(g)
	for i, c := range g.Cells {
		_ = append(c.Parts, 77)
		kept := slices.Clone(c.Parts)
		for k := range c.Parts {
			c.Parts[k] = 77
		}
		if n := strings.Count(graphText(g), "77"); n != len(c.Parts) {
			t.Error(i, graphText(g))
		}
		copy(c.Parts, kept)
	}
	if graphText(g) != was {
		t.Error(graphText(g), "want", was)
	}
	tokens, _, _ := print.Tokens("(a b)")
	other, _, _ := print.Tokens("(a b)")
	clear(tokens[:cap(tokens)])
	if strings.Join(other, " ") != "( a b )" {
		t.Error(other)
	}
}

// scribble writes into all memory of a datum.
func scribble(d api.Datum) {
	parts := d.Parts[:cap(d.Parts)]
	for i := range parts {
		scribble(parts[i])
		parts[i] = num(77)
	}
}

// apart fails if a change of one piece can be seen in another one.
func apart(t *testing.T, d api.Datum) {
	t.Helper()
	seen := map[*api.Datum]bool{}
	var visit func(d api.Datum)
	visit = func(d api.Datum) {
		if cap(d.Parts) == 0 {
			return
		}
		if p := &d.Parts[:1][0]; seen[p] {
			t.Error("memory is shared at", plain(d))
		} else {
			seen[p] = true
		}
		for _, p := range d.Parts {
			visit(p)
		}
	}
	visit(d)
}

// TestArgumentsStay: arguments are not changed, not even the memory behind them, and calls with the same ones return the same (R2, R4).
func TestArgumentsStay(t *testing.T) {
	store := []api.Datum{sym("quote"), num(1), num(2), {Kind: 99}}
	d := api.Datum{Kind: api.Vec, Parts: store[:2]}
	two := api.Datum{Kind: api.Pair, Parts: []api.Datum{sym("quote"), pair(d, nothing()), {Kind: 98}}[:2]}
	l := []api.Datum{two, d, two}
	parts := []int{0, 1, 0, 99}
	g := api.Graph{Cells: append(make([]api.Cell, 0, 9), api.Cell{Kind: api.Vec, Parts: parts[:3]}, api.Cell{Kind: api.Pair, Parts: []int{0, 1, 97}[:2]})}
	for range 2 {
		texts := [5]string{}
		texts[0], _ = print.Show(two)
		texts[1], _ = print.ShowAll(l)
		texts[2], _ = print.Pretty(two, 3)
		texts[3], _ = print.ShowGraph(g)
		texts[4], _ = print.Pretty(two, 20)
		want := [5]string{"'#(quote 1)", "'#(quote 1)\n#(quote 1)\n'#(quote 1)\n", "'#(quote\n   1)", "#0=#(#0# #1=(#0# . #1#) #0#)", "'#(quote 1)"}
		if texts != want {
			t.Errorf("%q want %q", texts, want)
		}
	}
	if plain(d) != "#(quote 1)" || plain(two) != "(quote #(quote 1))" || store[2].Num != 2 || store[3].Kind != 99 || two.Parts[:3][2].Kind != 98 || !slices.Equal(parts, []int{0, 1, 0, 99}) || graphText(g) != "Vec 0 1 0, Pair 0 1" {
		t.Error(plain(d), plain(two), store, parts, graphText(g))
	}
}

// TestEmptyAndNil: a nil slice and an empty one mean the same (R4).
func TestEmptyAndNil(t *testing.T) {
	empty := []api.Datum{}
	d := api.Datum{Kind: api.Vec, Parts: []api.Datum{{Kind: api.Vec, Parts: empty}, {Kind: api.Num, Parts: empty}, {Parts: empty}}}
	text, e := print.Show(d)
	lines, f := print.Pretty(d, 1)
	if text != "#(#() 0 ())" || e != api.OK || lines != "#(#()\n  0\n  ())" || f != api.OK {
		t.Error(text, e, lines, f)
	}
	if text, e := print.ShowGraph(api.Graph{Cells: []api.Cell{{Kind: api.Vec, Parts: []int{}}}}); text != "#()" || e != api.OK {
		t.Error(text, e)
	}
}

// TestAnyText: functions return whatever a text is, with zero values beside each error and a place in the text (P1, R3, R5), and what they read is valid.
func TestAnyText(t *testing.T) {
	r := sample.NewRandom(17)
	for i := range 20000 {
		words := []string{"(", ")", "(", ")", "'", ".", "#(", "a", "12", `"s"`, "#t", " ", "\n", "#0=", "#0#", "#1=", "#1#", "; c\n"}
		if i%4 == 0 {
			words = append(words, "A", "\x80", "#", `"`, `\`, "\x00", "é", "007", "#f1", "\t", "#100=")
		}
		text := soup(r, r.Below(25), words...)
		tokens, a, e := print.Tokens(text)
		d, b, f := print.Read(text)
		l, c, g := print.ReadAll(text)
		web, at, h := print.ReadGraph(text)
		zero := (e == api.OK || len(tokens) == 0) && (f == api.OK || same(d, nothing())) && (g == api.OK || len(l) == 0) && (h == api.OK || len(web.Cells) == 0)
		for k, place := range []int{a, b, c, at} {
			if err := []api.Errno{e, f, g, h}[k]; place < 0 || place > len(text) || err != api.ErrForm && place != 0 || err != api.ErrForm && err != api.OK && err != api.ErrMany {
				t.Errorf("%q %d: %d %v", text, k, place, err)
			}
		}
		if !zero {
			t.Errorf("%q: %v %v %v %v", text, tokens, d, l, web)
		}
		if f == api.OK && (g != api.OK || len(l) != 1 || !same(l[0], d) || h == api.ErrForm) {
			t.Errorf("%q: %v %v %v", text, d, l, h)
		}
		if e == api.ErrForm && (f != api.ErrForm || b > a || g != api.ErrForm || c > a || h != api.ErrForm || at > a) {
			t.Errorf("%q: %d %d %d %d", text, a, b, c, at)
		}
	}
}

// TestAnyValue: functions return whatever the fields of a datum and of a graph are (P1, R5).
func TestAnyValue(t *testing.T) {
	r := sample.NewRandom(18)
	for range 3000 {
		d, g := anyDatum(r, 3), r.Graph(4)
		for range r.Below(3) {
			spoil(r, &d)
			c := &g.Cells[r.Below(len(g.Cells))]
			piece := api.Datum{Kind: c.Kind, Num: c.Num, Text: c.Text}
			spoil(r, &piece)
			*c = api.Cell{Kind: piece.Kind, Num: piece.Num, Text: piece.Text, Parts: append(slices.Clone(c.Parts), r.Below(5)-1)[r.Below(2):]}
			g.Root = r.Below(6) - 1
		}
		a, e := print.Show(d)
		b, f := print.ShowAll([]api.Datum{num(1), d})
		c, h := print.Pretty(d, r.Below(300)-50)
		text, k := print.ShowGraph(g)
		for i, err := range []api.Errno{e, f, h, k} {
			if out := []string{a, b, c, text}[i]; err < api.OK || err > api.ErrStuck || (err == api.OK) != (out != "") {
				t.Error(i, d, graphText(g), out, err)
			}
		}
	}
}

// spoil changes some field of some piece of a datum.
func spoil(r *sample.Random, d *api.Datum) {
	for len(d.Parts) > 0 && r.Below(3) > 0 {
		d = &d.Parts[r.Below(len(d.Parts))]
	}
	switch r.Below(4) {
	case 0:
		d.Kind = r.Below(12) - 2
	case 1:
		d.Num = []int{-1, 0, 1, api.NumMost + 1, -1 << 63, 1<<63 - 1}[r.Below(6)]
	case 2:
		d.Text = []string{"", "a", "A", "\n", "quote"}[r.Below(5)]
	case 3:
		d.Parts = append(d.Parts, nothing())
	}
}

// TestRing: a datum that is a part of itself is none, and all functions return.
func TestRing(t *testing.T) {
	d := vec(num(1), num(2))
	d.Parts[1] = d
	a, e := print.Show(d)
	b, f := print.ShowAll([]api.Datum{d})
	c, g := print.Pretty(d, 5)
	if a+b+c != "" || e != api.ErrLarge || f != api.ErrLarge || g != api.ErrLarge {
		t.Error(a, e, b, f, c, g)
	}
}
