package datum_test

import (
	"slices"

	"caracole/sample"
)

var (
	num, sym, str, flag    = sample.Num, sample.Sym, sample.Str, sample.Bool
	pair, vec, list        = sample.Pair, sample.Vec, sample.List
	wide, deep, zeros      = sample.Wide, sample.Deep, sample.Zeros
	show, showAll          = sample.Show, sample.ShowAll
	read, readAll          = sample.Read, sample.ReadAll
	same, allPaths, follow = sample.Same, sample.Paths, sample.Follow
	newRandom              = sample.NewRandom
)

func samePaths(a, b [][]int) bool { return slices.EqualFunc(a, b, slices.Equal) }
