// Package datum is layer 1, data as trees: see shared/doc/01-datum.md.
package datum

import (
	"slices"

	"caracole/api"
	"caracole/guard"
	"caracole/plain"
)

// Check returns the first error of a datum, otherwise OK.
func Check(d api.Datum) api.Errno {
	_, e := guard.Call(func() int { return valid(d) })
	return e
}

// Compare returns -1 if a comes before b, 0 if they are equal, and 1 if a comes behind b.
func Compare(a, b api.Datum) (int, api.Errno) {
	return guard.Call(func() int {
		valid(a)
		valid(b)
		return order(a, b)
	})
}

// Size returns how many pieces a datum consists of, and how many of them are inside of one another at most.
func Size(d api.Datum) (pieces, depth int, e api.Errno) {
	x, e := guard.Call(func() extent {
		n := valid(d)
		return extent{pieces: n, depth: deepest(d)}
	})
	return x.pieces, x.depth, e
}

// ToList returns the elements of a list: ErrKind if the datum is none.
func ToList(d api.Datum) ([]api.Datum, api.Errno) {
	return guard.Call(func() []api.Datum {
		valid(d)
		return copyAll(elements(d))
	})
}

// FromList returns the list of some elements.
func FromList(l []api.Datum) (api.Datum, api.Errno) {
	return guard.Call(func() api.Datum {
		pieces := 1
		for _, x := range l {
			pieces += 1 + valid(x)
		}
		limit(pieces)
		return plain.List(api.Datum{}, copyAll(l)...)
	})
}

// Append returns the elements of the list a with b behind them: ErrKind unless a is a list.
func Append(a, b api.Datum) (api.Datum, api.Errno) {
	return guard.Call(func() api.Datum {
		front := valid(a)
		back := valid(b)
		l := elements(a)
		limit(front - 1 + back)
		return plain.List(plain.Copy(b), copyAll(l)...)
	})
}

// Turn returns the list of the elements in the other order: ErrKind unless the datum is a list.
func Turn(d api.Datum) (api.Datum, api.Errno) {
	return guard.Call(func() api.Datum {
		valid(d)
		l := elements(d)
		slices.Reverse(l)
		return plain.List(api.Datum{}, copyAll(l)...)
	})
}

// At returns the part at a path: ErrRange if it leads to nothing.
func At(d api.Datum, path []int) (api.Datum, api.Errno) {
	return guard.Call(func() api.Datum {
		valid(d)
		return plain.Copy(*place(&d, path))
	})
}

// Put returns the datum with x at a path: ErrRange if it leads to nothing.
func Put(d api.Datum, path []int, x api.Datum) (api.Datum, api.Errno) {
	return guard.Call(func() api.Datum {
		whole := valid(d)
		added := valid(x)
		gone := valid(*place(&d, path))
		limit(whole - gone + added)
		out := plain.Copy(d)
		spot := place(&out, path)
		*spot = plain.Copy(x)
		return out
	})
}

// Find returns all paths that lead to a part that equals x, in order.
func Find(d, x api.Datum) ([][]int, api.Errno) {
	return guard.Call(func() [][]int {
		valid(d)
		valid(x)
		return find(d, x)
	})
}

// Replace returns the datum with y in the place of each part that equals x.
func Replace(d, x, y api.Datum) (api.Datum, api.Errno) {
	return guard.Call(func() api.Datum {
		whole := valid(d)
		gone := valid(x)
		added := valid(y)
		limit(whole + len(find(d, x))*(added-gone))
		return exchange{old: x, new: y}.in(d)
	})
}

// Differ returns the first path at which the parts of both differ in themselves: ErrNone if the data are equal.
func Differ(a, b api.Datum) ([]int, api.Errno) {
	return guard.Call(func() []int {
		valid(a)
		valid(b)
		return difference(a, b)
	})
}

// Symbols returns the texts of all symbols in a datum, ascending by bytes, each once.
func Symbols(d api.Datum) ([]string, api.Errno) {
	return guard.Call(func() []string {
		valid(d)
		return ascending(names(d))
	})
}
