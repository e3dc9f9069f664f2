package core

import (
	"slices"

	"caracole/api"
	"caracole/guard"
)

// Early returns how many arguments of a term with an Op, and with so many of them, are evaluated before its own effect.
func Early(op, args int) int {
	count := 0
	switch op {
	case api.App, api.Prim, api.Apply, api.Handle, api.Signal, api.Mark, api.Emit:
		count = args - 1
		fallthrough
	case api.If, api.Let:
		count++
	}
	return count
}

// Binds says whether a term binds a name in one of its arguments.
func Binds(t *api.Term, arg int, name string) bool {
	switch t.Op {
	case api.Let:
		return arg == 1 && name == t.Name
	case api.Rec:
		if name == t.Name {
			return true
		}
		fallthrough
	case api.Fn:
		return slices.Contains(t.Names, name)
	}
	return false
}

// NeedArgs fails unless a function with so many parameters is called with as many arguments.
func NeedArgs(params, args int) {
	switch {
	case args < params:
		guard.Fail(api.ErrFew)
	case args > params:
		guard.Fail(api.ErrMany)
	}
}
