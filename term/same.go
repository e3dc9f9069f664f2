package term

import (
	"strconv"

	"caracole/api"
	"caracole/plain"
)

// canon gives new names to all that is bound in a term.
type canon struct {
	avoid set[string] // names that are not given
	given int
	now   map[string]string // what names that are bound around have become
}

// canonical returns the canonical form of a valid term.
func canonical(t *api.Term) api.Term {
	out := plain.CopyTerm(*t)
	c := canon{avoid: free(t), now: map[string]string{}}
	c.rename(&out)
	return out
}

// next returns the next name that is given.
func (c *canon) next() string {
	for {
		c.given++
		name := "v" + strconv.Itoa(c.given)
		if !c.avoid[name] {
			return name
		}
	}
}

// change is a name before and after it was changed.
type change struct{ old, new string }

func (c *canon) rename(t *api.Term) {
	if name, ok := c.now[t.Name]; ok && t.Op == api.Var {
		t.Name = name
	}
	n := atWork(t)
	var changes []change
	for _, name := range n.names() {
		x := change{old: *name, new: c.next()}
		changes = append(changes, x)
		*name = x.new
	}
	for i := range t.Args {
		known := changes[:len(binds(n, i))] // all of them, or none
		c.under(known, func() { c.rename(&t.Args[i]) })
	}
}

// under does something inside of what binds the names that have changed.
func (c *canon) under(changes []change, do func()) {
	around := plain.Each(changes, func(x change) string { return c.now[x.old] })
	for _, x := range changes {
		c.now[x.old] = x.new
	}
	do()
	for i, x := range changes {
		c.now[x.old] = around[i]
		if around[i] == "" {
			delete(c.now, x.old)
		}
	}
}
