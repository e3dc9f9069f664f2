package sample

import "caracole/api"

// Random makes numbers and data that look as if they came by chance, but are the same for the same seed.
type Random struct{ state uint64 }

func NewRandom(seed uint64) *Random { return &Random{state: seed} }

// Below is a number from 0 to n - 1.
func (r *Random) Below(n int) int {
	r.state += 0x9e3779b97f4a7c15
	x := r.state
	x = (x ^ x>>30) * 0xbf58476d1ce4e5b9
	x = (x ^ x>>27) * 0x94d049bb133111eb
	return int((x ^ x>>31) % uint64(n))
}

// Leaf is a datum without parts. There are only a few different ones, so that equal parts are frequent.
func (r *Random) Leaf() api.Datum {
	switch r.Below(5) {
	case 0:
		return Bool(r.Below(2))
	case 1:
		return Num(r.Below(3) - 1)
	case 2:
		return Sym([]string{"a", "ab", "b"}[r.Below(3)])
	case 3:
		return Str([]string{"", "a", "b"}[r.Below(3)])
	}
	return api.Datum{}
}

// Datum has parts in one another up to a depth.
func (r *Random) Datum(depth int) api.Datum {
	n := r.Below(10)
	if depth == 0 || n < 5 {
		return r.Leaf()
	}
	switch n {
	case 5, 6:
		first := r.Datum(depth - 1)
		return Pair(first, r.Datum(depth-1))
	case 7:
		return r.List(depth)
	}
	d := Vec()
	for range r.Below(4) {
		d.Parts = append(d.Parts, r.Datum(depth-1))
	}
	return d
}

func (r *Random) List(depth int) api.Datum {
	var l []api.Datum
	for range r.Below(5) {
		l = append(l, r.Datum(depth-1))
	}
	return List(api.Datum{}, l...)
}

// Part is some part of a datum, or sometimes a datum of its own.
func (r *Random) Part(d api.Datum) api.Datum {
	if r.Below(4) == 0 {
		return r.Datum(2)
	}
	paths := Paths(d)
	return Follow(d, paths[r.Below(len(paths))])
}
