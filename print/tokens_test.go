package print_test

import (
	"regexp"
	"slices"
	"strings"
	"testing"

	"caracole/api"
	"caracole/print"
	"caracole/sample"
)

func TestTokens(t *testing.T) {
	for _, x := range []struct {
		text string
		want []string
	}{
		{"'(a . #0#) ; c", []string{"'", "(", "a", ".", "#0#", ")"}}, {"", nil}, {" \n ; only a comment", nil}, {";\n;;\n", nil}, {"; \t\xff A\na", []string{"a"}},
		{"#(#t#f)", []string{"#(", "#t", "#f", ")"}}, {"#t'x", []string{"#t", "'", "x"}}, {"#f\"\"", []string{"#f", `""`}}, {"#t.", []string{"#t", "."}}, {"#t;", []string{"#t"}}, {"#t#0=", []string{"#t", "#0="}},
		{"a.b", []string{"a", ".", "b"}}, {"...", []string{".", ".", "."}}, {"a'b", []string{"a", "'", "b"}}, {"a(b)c", []string{"a", "(", "b", ")", "c"}}, {`a"b"c`, []string{"a", `"b"`, "c"}}, {"a;b", []string{"a"}}, {"a#(", []string{"a", "#("}}, {"1#0=", []string{"1", "#0="}},
		{"0 -5 10 999999999 -999999999", []string{"0", "-5", "10", "999999999", "-999999999"}}, {"+ +5 - --1 -a ->? a1 =0", []string{"+", "+5", "-", "--1", "-a", "->?", "a1", "=0"}}, {strings.Repeat("a", 20), []string{strings.Repeat("a", 20)}},
		{"#0=#0##99=#10#", []string{"#0=", "#0#", "#99=", "#10#"}}, {"#0=a=", []string{"#0=", "a="}}, {"#0=#f", []string{"#0=", "#f"}}, {"#1##(", []string{"#1#", "#("}},
		{`"" "a b" "\"" "\\" "(;'" "\\\""`, []string{`""`, `"a b"`, `"\""`, `"\\"`, `"(;'"`, `"\\\""`}}, {`"a""b"`, []string{`"a"`, `"b"`}}, {`"` + strings.Repeat("x", 500) + `"`, []string{`"` + strings.Repeat("x", 500) + `"`}},
		{")(')", []string{")", "(", "'", ")"}},
	} {
		if l, at, e := print.Tokens(x.text); !slices.Equal(l, x.want) || at != 0 || e != api.OK {
			t.Errorf("%q: %q %d %v", x.text, l, at, e)
		}
	}
	for _, x := range []struct {
		text string
		at   int
	}{
		{"007", 0}, {"00", 0}, {"-0", 0}, {"-01", 0}, {"1a", 0}, {"-1a", 0}, {"1-", 0}, {"a 1000000000", 2}, {"-1000000000", 0}, {"(99999999999999999999999)", 1}, {strings.Repeat("9", 8000), 0}, {" " + strings.Repeat("a", 21), 1},
		{"A", 0}, {"aB", 1}, {"a\tb", 1}, {"a\r\n", 1}, {"[", 0}, {"a_b", 1}, {"\x00", 0}, {"é", 0}, {"a\x80", 1}, {"(\xff", 1}, {"a,", 1}, {"`a", 0}, {"\\", 0}, {"a\\\"", 1},
		{"#", 0}, {"a #", 2}, {"##", 0}, {"#;", 0}, {"# (", 0}, {"#'", 0}, {"#.", 0}, {"#ff", 0}, {"#t1", 0}, {"#f-", 0}, {"#f=", 0}, {"#a", 0}, {"#true", 0}, {"#F", 0},
		{"#0", 0}, {"#00=", 0}, {"#01#", 0}, {"#100=", 0}, {"#0 =", 0}, {"#=", 0}, {"#-1=", 0}, {"#1a=", 0}, {"#12", 0}, {"#0=#1", 3}, {"#0(", 0}, {"#99999999999999999999=", 0},
		{`"`, 0}, {`a "b`, 2}, {`"a\"`, 0}, {`"a\`, 0}, {`"\a"`, 0}, {`"\ "`, 0}, {"\"\n\"", 0}, {"\"\x7f\"", 0}, {"\"\x1f\"", 0}, {"\"é\"", 0}, {"\"\\\n\"", 0}, {`""a"`, 3}, {`"\\"a" "b"`, 9}, {`"\\\"`, 0},
	} {
		if l, at, e := print.Tokens(x.text); len(l) > 0 || at != x.at || e != api.ErrForm {
			t.Errorf("%q: %q %d %v want %d", x.text, l, at, e, x.at)
		}
	}
}

var (
	between = regexp.MustCompile(`^(?:[ \n]|;[^\n]*(?:\n|$))*`)
	one     = regexp.MustCompile(`^(?:[()'.]|#\(|#(?:0|[1-9][0-9]?)[=#]|"(?:\\["\\]|[ !#-\[\]-~])*"|#[ft]|[a-z0-9+*/<>=?!-]+)`)
	number  = regexp.MustCompile(`^(?:0|-?[1-9][0-9]{0,8})$`)
	symbol  = regexp.MustCompile(`^(?:-|-?[a-z+*/<>=?!][a-z0-9+*/<>=?!-]*|--[a-z0-9+*/<>=?!-]*)$`)
	letter  = regexp.MustCompile(`^[a-z0-9+*/<>=?!-]`)
)

// split are the tokens of a text as the chapter says them, written apart from package print, or the place of what is none.
func split(text string) (l []string, at int) {
	for {
		at += len(between.FindString(text[at:]))
		if at == len(text) {
			return l, -1
		}
		token := one.FindString(text[at:])
		behind := text[at+len(token):]
		bad := token == "" || (token == "#f" || token == "#t") && letter.MatchString(behind)
		if letter.MatchString(token) {
			bad = !number.MatchString(token) && (!symbol.MatchString(token) || len(token) > 20)
		}
		if bad {
			return nil, at
		}
		l = append(l, token)
		at += len(token)
	}
}

// soup is a text of some bytes and words by chance.
func soup(r *sample.Random, n int, words ...string) string {
	var b strings.Builder
	for range n {
		b.WriteString(words[r.Below(len(words))])
	}
	return b.String()
}

func TestTokensBySoup(t *testing.T) {
	r := sample.NewRandom(4)
	good := 0
	for i := range 30000 {
		text := soup(r, r.Below(12), " ", "\n", ";", "(", ")", "'", ".", "#", `"`, `\`, "a", "f", "t", "-", "=", "0", "1", "9", "#f", "#0=", "#(", "a")
		if i%5 == 0 {
			text = soup(r, r.Below(6), "12345", "-", "+", "a", "0", "a1-a2", " ", "a", "\x80", "é", "~", "A", "\t")
		}
		want, place := split(text)
		l, at, e := print.Tokens(text)
		if place < 0 && (!slices.Equal(l, want) || at != 0 || e != api.OK) || place >= 0 && (len(l) > 0 || at != place || e != api.ErrForm) {
			t.Errorf("%q: %q %d %v want %q %d", text, l, at, e, want, place)
		}
		if e == api.OK {
			good++
		}
	}
	if good < 3000 {
		t.Error(good)
	}
}

// TestLongTexts: no text with more than PrintText bytes is read.
func TestLongTexts(t *testing.T) {
	for _, x := range []struct {
		text string
		at   int
		want api.Errno
	}{
		{"a" + strings.Repeat(" ", api.PrintText-1), 0, api.OK}, {"a" + strings.Repeat(" ", api.PrintText), 0, api.ErrLarge}, {strings.Repeat("A", api.PrintText+1), 0, api.ErrLarge}, {strings.Repeat("A", api.PrintText), 0, api.ErrForm}, {strings.Repeat(" ", api.PrintText-1) + "A", api.PrintText - 1, api.ErrForm}, {strings.Repeat("a", 1<<20), 0, api.ErrLarge},
	} {
		l, a, e := print.Tokens(x.text)
		_, b, f := print.Read(x.text)
		_, c, g := print.ReadAll(x.text)
		_, d, h := print.ReadGraph(x.text)
		if got := []int{a, b, c, d}; !slices.Equal(got, []int{x.at, x.at, x.at, x.at}) {
			t.Error(len(x.text), got)
		}
		if got := []api.Errno{e, f, g, h}; !slices.Equal(got, []api.Errno{x.want, x.want, x.want, x.want}) || e != api.OK && len(l) > 0 {
			t.Error(len(x.text), got)
		}
	}
}
