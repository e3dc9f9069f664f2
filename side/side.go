// Package side does work side by side.
package side

import "sync"

// BySide does some work, which may not panic, for each element of a list at the same time, and returns the results in the order of the list.
func BySide[T, R any](l []T, work func(T) R) []R {
	type result struct {
		at  int
		out R
	}
	results := make(chan result)
	var workers sync.WaitGroup
	for i := range len(l) {
		workers.Go(func() { results <- result{at: i, out: work(l[i])} })
	}
	go func() {
		workers.Wait()
		close(results)
	}()
	all := make([]R, len(l))
	for r := range results {
		all[r.at] = r.out
	}
	return all
}
