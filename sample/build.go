package sample

import "caracole/api"

// Call, Prim, Function and Let consist of the very terms that they are given.
func Call(f api.Term, args ...api.Term) api.Term {
	return api.Term{Op: api.App, Args: append([]api.Term{f}, args...)}
}

func Prim(op string, args ...api.Term) api.Term {
	return api.Term{Op: api.Prim, Name: op, Args: args}
}

func Function(name string, body api.Term) api.Term {
	return api.Term{Op: api.Fn, Names: []string{name}, Args: []api.Term{body}}
}

func Let(name string, value, body api.Term) api.Term {
	return api.Term{Op: api.Let, Name: name, Args: []api.Term{value, body}}
}

// TermSize is of how many terms a term consists.
func TermSize(t api.Term) int {
	n := 1
	for _, a := range t.Args {
		n += TermSize(a)
	}
	return n
}

// Bush is a closed term of n terms, which is not deep: half of the additions in it are on each side.
func Bush(n int) api.Term {
	switch {
	case n == 1:
		return Quote(Num(1))
	case n%2 == 0:
		return Prim("not", Bush(n-1))
	}
	left := (n-1)/4*2 + 1
	return Prim("+", Bush(left), Bush(n-1-left))
}
