package datum_test

import (
	"strconv"
	"strings"
	"testing"

	"caracole/api"
	"caracole/datum"
)

type fault struct {
	name string
	d    api.Datum
	want api.Errno
}

// faults are data that are not valid, with their first errors. Where several errors apply the others are there to be passed over.
func faults() []fault {
	some := []api.Datum{{}}
	two := []api.Datum{{}, {}}
	bad := api.Datum{Kind: 9}
	return []fault{
		{"kind below", api.Datum{Kind: -1}, api.ErrKind},
		{"kind above", api.Datum{Kind: 7}, api.ErrKind},
		{"kind before form", api.Datum{Kind: 7, Num: 1, Text: "a", Parts: []api.Datum{bad}}, api.ErrKind},
		{"nil with number", api.Datum{Num: 1}, api.ErrForm},
		{"nil with text", api.Datum{Text: "a"}, api.ErrForm},
		{"nil with parts", api.Datum{Parts: some}, api.ErrForm},
		{"bool with text", api.Datum{Kind: api.Bool, Text: "a"}, api.ErrForm},
		{"bool with parts", api.Datum{Kind: api.Bool, Parts: some}, api.ErrForm},
		{"bool: form before value", api.Datum{Kind: api.Bool, Num: 2, Text: "a"}, api.ErrForm},
		{"bool 2", flag(2), api.ErrValue},
		{"bool -1", flag(-1), api.ErrValue},
		{"num with text", api.Datum{Kind: api.Num, Num: 1, Text: "1"}, api.ErrForm},
		{"num with parts", api.Datum{Kind: api.Num, Num: 1, Parts: some}, api.ErrForm},
		{"num: form before value", api.Datum{Kind: api.Num, Num: api.NumMost + 1, Parts: some}, api.ErrForm},
		{"num above", num(api.NumMost + 1), api.ErrValue},
		{"num below", num(-api.NumMost - 1), api.ErrValue},
		{"sym with number", api.Datum{Kind: api.Sym, Text: "a", Num: 1}, api.ErrForm},
		{"sym with parts", api.Datum{Kind: api.Sym, Text: "a", Parts: some}, api.ErrForm},
		{"sym: form before name", api.Datum{Kind: api.Sym, Num: -1}, api.ErrForm},
		{"sym empty", sym(""), api.ErrName},
		{"sym long", sym(strings.Repeat("a", api.SymLong+1)), api.ErrName},
		{"sym capital", sym("A"), api.ErrName},
		{"sym digit first", sym("1a"), api.ErrName},
		{"sym 9", sym("9"), api.ErrName},
		{"sym minus digit", sym("-1"), api.ErrName},
		{"sym minus digit letter", sym("-0a"), api.ErrName},
		{"sym space", sym("a b"), api.ErrName},
		{"sym last byte", sym("ab_"), api.ErrName},
		{"sym beyond ascii", sym("é"), api.ErrName},
		{"sym no utf8", sym("a\xff"), api.ErrName},
		{"sym zero byte", sym("\x00"), api.ErrName},
		{"str with number", api.Datum{Kind: api.Str, Num: 1}, api.ErrForm},
		{"str with parts", api.Datum{Kind: api.Str, Parts: some}, api.ErrForm},
		{"str: form before large", api.Datum{Kind: api.Str, Num: 1, Text: strings.Repeat("a", 61)}, api.ErrForm},
		{"str long", str(strings.Repeat("a", api.StrLong+1)), api.ErrLarge},
		{"str: large before value", str(strings.Repeat("a", api.StrLong) + "\n"), api.ErrLarge},
		{"str long in bytes", str(strings.Repeat("é", 31)), api.ErrLarge},
		{"str below space", str("a\x1f"), api.ErrValue},
		{"str above ~", str("\x7f"), api.ErrValue},
		{"str beyond ascii", str("é"), api.ErrValue},
		{"str no utf8", str("\xff"), api.ErrValue},
		{"pair with number", api.Datum{Kind: api.Pair, Num: 1, Parts: two}, api.ErrForm},
		{"pair with text", api.Datum{Kind: api.Pair, Text: "a", Parts: two}, api.ErrForm},
		{"pair of none", api.Datum{Kind: api.Pair}, api.ErrForm},
		{"pair of one", api.Datum{Kind: api.Pair, Parts: some}, api.ErrForm},
		{"pair of three", api.Datum{Kind: api.Pair, Parts: []api.Datum{{}, {}, {}}}, api.ErrForm},
		{"pair before its parts", api.Datum{Kind: api.Pair, Parts: []api.Datum{bad}}, api.ErrForm},
		{"vec with number", api.Datum{Kind: api.Vec, Num: 1}, api.ErrForm},
		{"vec with text", api.Datum{Kind: api.Vec, Text: "a"}, api.ErrForm},
		{"first part first", pair(sym(""), bad), api.ErrName},
		{"all of the first part first", pair(vec(vec(flag(2)), bad), sym("")), api.ErrValue},
		{"last part", vec(num(1), list(api.Datum{}, num(2), str("\t"))), api.ErrValue},
		{"wide", wide(api.DatumSize), api.ErrLarge},
		{"deep", deep(api.DatumSize + 1), api.ErrLarge},
		{"list too long", zeros(1000), api.ErrLarge},
		{"size after all others", vec(wide(api.DatumSize), wide(api.DatumSize), bad), api.ErrKind},
		{"far behind the size", list(sym("-1"), wide(5000).Parts...), api.ErrName},
	}
}

func TestCheckFaults(t *testing.T) {
	for _, f := range faults() {
		if e := datum.Check(f.d); e != f.want {
			t.Error(f.name, e, "want", f.want)
		}
	}
}

func TestCheckValid(t *testing.T) {
	for i, d := range []api.Datum{
		{}, {Parts: []api.Datum{}}, flag(0), flag(1), num(0), num(api.NumMost), num(-api.NumMost), {Kind: api.Num, Parts: []api.Datum{}},
		sym("a"), sym("z"), sym("-"), sym("--1"), sym("-a"), sym("+1"), sym("a0"), sym("a9-1"), sym("+-*/<>=?!"), sym(strings.Repeat("a", api.SymLong)),
		str(""), str(" ~"), str("\"\\"), str("A1"), str(strings.Repeat("x", api.StrLong)),
		pair(num(1), num(2)), vec(), vec(num(1)), vec(num(1), num(2), num(3)),
		wide(api.DatumSize - 1), deep(api.DatumSize), zeros(999), read(`(a 1 (b "s"))`),
	} {
		if e := datum.Check(d); e != api.OK {
			t.Error(i, e)
		}
	}
}

func TestCheckRandom(t *testing.T) {
	r := newRandom(1)
	for range 300 {
		if d := r.Datum(4); datum.Check(d) != api.OK {
			t.Error(show(d), datum.Check(d))
		}
	}
}

// TestCheckBytes looks at each byte alone, in front of others and behind others.
func TestCheckBytes(t *testing.T) {
	for b := range 256 {
		c := string([]byte{byte(b)})
		isDigit := strings.Contains("0123456789", c)
		inside := isDigit || strings.Contains("abcdefghijklmnopqrstuvwxyz-+*/<>=?!", c)
		plain := b >= 32 && b <= 126
		for _, x := range []struct {
			d     api.Datum
			valid bool
			e     api.Errno
		}{
			{sym(c), inside && !isDigit, api.ErrName},
			{sym(c + "a"), inside && !isDigit, api.ErrName},
			{sym("a" + c), inside, api.ErrName},
			{sym("-" + c), inside && !isDigit, api.ErrName},
			{sym("--" + c), inside, api.ErrName},
			{sym("+" + c), inside, api.ErrName},
			{str(c), plain, api.ErrValue},
			{str("a" + c + "b"), plain, api.ErrValue},
		} {
			want := x.e
			if x.valid {
				want = api.OK
			}
			if e := datum.Check(x.d); e != want {
				t.Error(b, strconv.Quote(x.d.Text), e, "want", want)
			}
		}
	}
}

// TestCheckHostile has data that no tree is: parts that share memory very often, and parts of themselves. A call has to end all the same (P1).
func TestCheckHostile(t *testing.T) {
	shared := num(1)
	for range 80 {
		shared = pair(shared, shared)
	}
	loop := vec(num(1), num(2))
	loop.Parts[1] = loop
	twice := pair(num(1), num(2))
	twice.Parts[0], twice.Parts[1] = twice, twice
	late := vec(twice, num(1))
	late.Parts[1] = sym("")
	far := num(1)
	for range 1 << 17 {
		far = vec(far)
	}
	for i, x := range []struct {
		d    api.Datum
		want api.Errno
	}{{shared, api.ErrLarge}, {loop, api.ErrLarge}, {twice, api.ErrLarge}, {far, api.ErrLarge}, {vec(shared, sym("")), api.ErrName}} {
		if e := datum.Check(x.d); e != x.want {
			t.Error(i, e, "want", x.want)
		}
		for name, call := range calls() {
			if e := call(x.d, num(1)); e != x.want {
				t.Error(i, name, e, "want", x.want)
			}
		}
	}
	if e := datum.Check(late); e != api.ErrLarge && e != api.ErrName { // a tree with an endless part in front of an error
		t.Error(e)
	}
}
