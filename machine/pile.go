package machine

import "iter"

// pile is a stack, the top of which is the last item.
type pile[T any] struct{ items []T }

func (p *pile[T]) push(l ...T) { p.items = append(p.items, l...) }

func (p *pile[T]) pop() T {
	last := len(p.items) - 1
	top := p.items[last]
	p.items = p.items[:last]
	return top
}

// cut takes off all items from one on, and returns them.
func (p *pile[T]) cut(at int) []T {
	off := make([]T, len(p.items)-at)
	copy(off, p.items[at:])
	p.items = p.items[:at]
	return off
}

// downward yields the items from the top on, and where they are.
func (p *pile[T]) downward() iter.Seq2[int, T] {
	return func(yield func(int, T) bool) {
		for n := range len(p.items) {
			at := len(p.items) - 1 - n
			if !yield(at, p.items[at]) {
				return
			}
		}
	}
}
