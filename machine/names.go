package machine

import (
	"maps"
	"slices"

	"caracole/api"
	"caracole/guard"
	"caracole/term"
)

// span is the arguments of a term from one on, or the whole term.
type span struct {
	*api.Term
	from int
}

// whole is where a span begins that is the whole term.
const whole = -1

// names remembers which names are free in spans, since the same term is often in many values and frames.
type names map[span][]string

// in returns the names that are free in a span, ascending, and fails with the error of a term that is not valid.
func (n names) in(s span) []string {
	l, ok := n[s]
	if !ok {
		l = s.free()
		n[s] = l
	}
	return l
}

func (s span) free() []string {
	if s.from == whole {
		return guard.Get(term.Free(*s.Term))
	}
	all := map[string]bool{}
	for i := range s.Args[s.from:] {
		for _, name := range guard.Get(term.Free(s.Args[s.from+i])) {
			all[name] = true
		}
	}
	if s.Op == api.Let {
		delete(all, s.Name) // the only one that is bound where arguments of a frame are
	}
	return slices.Sorted(maps.Keys(all))
}
