package datum

import (
	"strings"

	"caracole/api"
)

// class is a kind of characters.
type class int

const (
	other class = iota // not in symbols
	letter
	digit
	sign
)

func classOf(r rune) class {
	switch {
	case r >= 'a' && r <= 'z':
		return letter
	case r >= '0' && r <= '9':
		return digit
	case strings.ContainsRune("-+*/<>=?!", r):
		return sign
	}
	return other
}

// isSymbol says whether a text is a symbol, which cannot be mistaken for a number.
func isSymbol(s string) bool {
	if len(s) == 0 || len(s) > api.SymLong {
		return false
	}
	for i := range len(s) {
		switch classOf(rune(s[i])) {
		case digit:
			if i > 1 || i == 1 && s[0] != '-' {
				continue
			}
			fallthrough // here it would begin a number
		case other:
			return false
		}
	}
	return true
}

// isPlain says whether all characters of a text are in ASCII, and can be seen or are spaces.
func isPlain(s string) bool {
	for _, r := range s {
		if r < ' ' || r > '~' {
			return false
		}
	}
	return true
}
