package datum

import (
	"cmp"
	"iter"
	"slices"

	"caracole/api"
	"caracole/guard"
	"caracole/plain"
)

// walker goes through the pieces of a datum. It looks at the parts of one only if enter says so.
type walker struct {
	enter func(parts []api.Datum) bool
}

// walk yields each piece before its parts, the parts from the first one on, each with its path, which is good until the next piece comes. It keeps a stack of its own, since a datum that was not checked yet may be as deep as memory allows.
func (w walker) walk(root api.Datum) iter.Seq2[[]int, api.Datum] {
	return func(yield func([]int, api.Datum) bool) {
		if !yield(nil, root) {
			return
		}
		// open has the parts that are being looked at on each level, path which one of them.
		open := [][]api.Datum{w.inside(root)}
		path := []int{0}
		for len(open) > 0 {
			n := len(path)
			if path[n-1] == len(open[n-1]) {
				open, path = open[:n-1], path[:n-1]
				if n > 1 {
					path[n-2]++
				}
				continue
			}
			part := open[n-1][path[n-1]]
			// Behind three indices an append to what is yielded cannot reach the walker's own path.
			if !yield(path[:n:n], part) {
				return
			}
			open = append(open, w.inside(part))
			path = append(path, 0)
		}
	}
}

func (w walker) inside(d api.Datum) []api.Datum {
	if !w.enter(d.Parts) {
		return nil
	}
	return d.Parts
}

// walk goes through all pieces of a valid datum.
func walk(d api.Datum) iter.Seq2[[]int, api.Datum] {
	return walker{enter: func([]api.Datum) bool { return true }}.walk(d)
}

// block is a run of parts in memory.
type block struct {
	first *api.Datum
	parts int
}

// census counts the pieces of a datum of which nothing is known yet.
type census struct {
	pieces int
	seen   map[block]bool
}

// enter lets all parts be counted up to DatumSize. Behind that the datum is too large anyway, and parts are looked at only for errors, for which once is enough: parts can share memory so often that there is no end to counting them, and even be parts of themselves.
func (c *census) enter(parts []api.Datum) bool {
	if len(parts) == 0 || c.pieces <= api.DatumSize {
		return true
	}
	b := block{first: &parts[0], parts: len(parts)}
	if c.seen[b] {
		return false
	}
	c.seen[b] = true
	return true
}

// valid returns how many pieces a datum has, and fails with its first error if it is not valid.
func valid(d api.Datum) int {
	c := census{seen: map[block]bool{}}
	for _, p := range (walker{enter: c.enter}).walk(d) {
		inspect(p)
		c.pieces++
	}
	limit(c.pieces)
	return c.pieces
}

// extent is how many pieces a datum has, and how deep it is.
type extent struct{ pieces, depth int }

func deepest(d api.Datum) int {
	most := 0
	for path := range walk(d) {
		most = max(most, len(path)+1)
	}
	return most
}

func find(d, x api.Datum) [][]int {
	var found [][]int
	for path, p := range walk(d) {
		if plain.Equal(p, x) {
			found = append(found, slices.Clone(path))
		}
	}
	return found
}

// difference returns the path of the first pieces of a and b that are not alike. Up to these both have the same shape, so that pieces with the same number have the same path.
func difference(a, b api.Datum) []int {
	var others []api.Datum
	for _, p := range walk(b) {
		others = append(others, p)
	}
	met := 0
	var first []int
pieces:
	for path, p := range walk(a) {
		switch {
		case alike(p, others[met]):
			met++
		default:
			first = slices.Clone(path)
			break pieces
		}
	}
	if met == len(others) {
		guard.Fail(api.ErrNone)
	}
	return first
}

// names yields the texts of all symbols, as often as they occur.
func names(d api.Datum) iter.Seq[string] {
	return func(yield func(string) bool) {
		for _, p := range walk(d) {
			if t, ok := atWork(p).(text); ok && t.Kind == api.Sym && !yield(t.Text) {
				return
			}
		}
	}
}

// ascending returns what comes, each once.
func ascending[K cmp.Ordered](all iter.Seq[K]) []K {
	known := map[K]bool{}
	var out []K
	for k := range all {
		if _, ok := known[k]; !ok {
			known[k] = true
			out = append(out, k)
		}
	}
	slices.Sort(out)
	return out
}
