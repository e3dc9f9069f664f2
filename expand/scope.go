package expand

// meaning is what a symbol stands for.
type meaning interface {
	// binding returns what tells it from all that is bound elsewhere.
	binding() string
}

type (
	variable struct{ name string } // bound by a form, by another name than all others
	free     struct{}              // a free variable with the text of the symbol, or a word
)

func (v variable) binding() string { return v.name }
func (m *macro) binding() string   { return m.name }
func (f free) binding() string     { return "" }

// scope is what the forms around bind.
type scope map[symbol]meaning

// bond is what a form makes of a symbol. Without a meaning the symbol is not bound.
type bond struct {
	symbol
	meaning
}

// enter binds symbols, and returns what they were before.
func (s scope) enter(bonds []bond) (before []bond) {
	for _, b := range bonds {
		before = append(before, bond{symbol: b.symbol, meaning: s[b.symbol]})
		s[b.symbol] = b.meaning
	}
	return before
}

// leave makes of symbols what they were before.
func (s scope) leave(before []bond) {
	for _, b := range before {
		s[b.symbol] = b.meaning
		if b.meaning == nil {
			delete(s, b.symbol)
		}
	}
}
