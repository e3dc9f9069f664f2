package side

import (
	"strconv"
	"strings"
	"sync"
	"testing"
)

func TestBySide(t *testing.T) {
	for _, n := range []int{0, 1, 2, 500} {
		var l []int
		var want []string
		for i := range n {
			l = append(l, n-i)
			want = append(want, strconv.Itoa(n-i))
		}
		if got := BySide(l, strconv.Itoa); strings.Join(got, " ") != strings.Join(want, " ") || len(got) != n {
			t.Error(n, got)
		}
	}
}

// TestAtOnce: each work is begun before another one has to end.
func TestAtOnce(t *testing.T) {
	var all sync.WaitGroup
	all.Add(20)
	got := BySide(make([]int, 20), func(int) int {
		all.Done()
		all.Wait()
		return 1
	})
	if len(got) != 20 {
		t.Error(got)
	}
}
