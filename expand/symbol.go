package expand

import (
	"iter"
	"strconv"

	"caracole/api"
	"caracole/datum"
	"caracole/guard"
	"caracole/plain"
	"caracole/term"
)

// symbol is a symbol with its origin. Symbols of the program have the number 0, and each one that came of a use has a number of its own.
type symbol struct {
	text   string
	number int
}

// origins knows all symbols by their names in data at work. A symbol of the program is its own name there; one that came of a use has a name that is no symbol of the program.
type origins struct {
	taken map[string]bool // the symbols of the program
	given int
	came  map[string]symbol
	homes []meaning // what symbols stand for, by their numbers, unless something around binds them
}

func originsOf(d api.Datum) origins {
	o := origins{taken: map[string]bool{}, came: map[string]symbol{}, homes: []meaning{free{}}}
	for _, s := range guard.Get(datum.Symbols(d)) {
		o.taken[s] = true
	}
	return o
}

// unused returns a name that is no symbol of the program, another one each time.
func (o *origins) unused() string {
	for {
		o.given++
		name := "v" + strconv.Itoa(o.given)
		if !o.taken[name] {
			return name
		}
	}
}

// bring makes a symbol that comes of a use, and returns its name.
func (o *origins) bring(text string, home meaning) string {
	name := o.unused()
	o.came[name] = symbol{text: text, number: len(o.homes)}
	o.homes = append(o.homes, home)
	return name
}

// symbol returns the symbol with a name.
func (o *origins) symbol(name string) symbol {
	if s, ok := o.came[name]; ok {
		return s
	}
	return symbol{text: name}
}

func (o *origins) text(name string) string { return o.symbol(name).text }

// names yields the names of the symbols in a datum, as often as they occur.
func names(d api.Datum) iter.Seq[string] {
	return func(yield func(string) bool) { visit(d, yield) }
}

func visit(d api.Datum, yield func(string) bool) bool {
	if d.Kind == api.Sym && !yield(d.Text) {
		return false
	}
	for _, part := range d.Parts {
		if !visit(part, yield) {
			return false
		}
	}
	return true
}

// renamed returns a datum with other names for its symbols.
func renamed(d api.Datum, name func(string) string) api.Datum {
	if d.Kind == api.Sym {
		d.Text = name(d.Text)
	}
	d.Parts = plain.Each(d.Parts, func(part api.Datum) api.Datum { return renamed(part, name) })
	return d
}

// macroWord is the word that layer 4 does not know.
const macroWord = "macro"

// isWord says whether the text of a symbol is a word, which it is whatever its origin.
func isWord(text string) bool { return text == macroWord || !term.IsName(text) }
