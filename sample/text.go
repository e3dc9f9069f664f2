package sample

import (
	"strconv"
	"strings"

	"caracole/api"
)

// Show is the text of a datum as in chapter 3, so that a test can say what it expects. Data of no kind are shown as ??.
func Show(d api.Datum) string {
	switch d.Kind {
	case api.Nil:
		return "()"
	case api.Bool:
		return []string{"#f", "#t"}[d.Num]
	case api.Num:
		return strconv.Itoa(d.Num)
	case api.Sym:
		return d.Text
	case api.Str:
		return strconv.Quote(d.Text)
	case api.Vec:
		return "#(" + ShowAll(d.Parts) + ")"
	case api.Pair:
		var l []api.Datum
		for d.Kind == api.Pair {
			l, d = append(l, d.Parts[0]), d.Parts[1]
		}
		if d.Kind == api.Nil {
			return "(" + ShowAll(l) + ")"
		}
		return "(" + ShowAll(l) + " . " + Show(d) + ")"
	}
	return "??"
}

func ShowAll(l []api.Datum) string {
	var words []string
	for _, d := range l {
		words = append(words, Show(d))
	}
	return strings.Join(words, " ")
}

// Read is the datum with a text as Show makes it; strings have no spaces and brackets.
func Read(text string) api.Datum {
	text = strings.NewReplacer("#(", " #( ", "(", " ( ", ")", " ) ").Replace(text)
	r := reader{words: strings.Fields(text)}
	d := r.datum()
	if len(r.words) > 0 {
		panic("more than one datum: " + text)
	}
	return d
}

func ReadAll(texts ...string) []api.Datum {
	var l []api.Datum
	for _, t := range texts {
		l = append(l, Read(t))
	}
	return l
}

// reader has the words of a text that were not read yet.
type reader struct{ words []string }

func (r *reader) next() string {
	w := r.words[0]
	r.words = r.words[1:]
	return w
}

func (r *reader) datum() api.Datum {
	w := r.next()
	switch {
	case w == "#(":
		l, _ := r.rest()
		return Vec(l...)
	case w == "(":
		l, tail := r.rest()
		return List(tail, l...)
	case w == "#f" || w == "#t":
		return Bool(strings.Index("ft", w[1:]))
	case w[0] == '"':
		return Str(w[1 : len(w)-1])
	}
	if n, err := strconv.Atoi(w); err == nil {
		return Num(n)
	}
	return Sym(w)
}

func (r *reader) rest() (l []api.Datum, tail api.Datum) {
	for r.words[0] != ")" {
		if r.words[0] == "." {
			r.next()
			tail = r.datum()
			continue
		}
		l = append(l, r.datum())
	}
	r.next()
	return l, tail
}
