package pattern

import "caracole/api"

// Etc is the symbol that says of the part in front of it that it is repeated.
const Etc = "etc"

// Sort is a sort of pieces of patterns and templates.
type Sort int

const (
	Literal  Sort = iota // stands for itself
	Variable             // stands for any datum
	Ellipsis             // stands for nothing, but says etc
	Vector               // has parts
	List                 // has elements, and something behind them
)

// SortOf returns the sort of a piece, which is a valid datum.
func SortOf(d api.Datum) Sort {
	switch d.Kind {
	case api.Sym:
		return SortOfSymbol(d.Text)
	case api.Vec:
		return Vector
	case api.Pair:
		return List
	}
	return Literal
}

// SortOfSymbol returns the sort of a symbol.
func SortOfSymbol(s string) Sort {
	switch {
	case s == Etc:
		return Ellipsis
	case len(s) > 1 && s[0] == '?':
		return Variable
	}
	return Literal
}

// IsEtc says whether a piece is an etc.
func IsEtc(d api.Datum) bool { return SortOf(d) == Ellipsis }
