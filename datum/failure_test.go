package datum

import (
	"errors"
	"testing"

	"caracole/api"
)

// TestGuard: whatever ends the work of a call becomes an error, with a zero value beside it.
func TestGuard(t *testing.T) {
	var l []int
	for i, x := range []struct {
		work func() int
		out  int
		want api.Errno
	}{
		{func() int { return 5 }, 5, api.OK},
		{func() int { fail(api.ErrZero); return 5 }, 0, api.ErrZero},
		{func() int { limit(api.DatumSize); return 5 }, 5, api.OK},
		{func() int { limit(api.DatumSize + 1); return 5 }, 0, api.ErrLarge},
		{func() int { return l[len(l)] }, 0, api.ErrForm},
		{func() int { panic("a string") }, 0, api.ErrForm},
		{func() int { panic(errors.New("an error")) }, 0, api.ErrForm},
	} {
		if out, e := guard(x.work); out != x.out || e != x.want {
			t.Error(i, out, e, "want", x.out, x.want)
		}
	}
	if got := (failure{api.ErrKind}).Error(); got != "datum: error 4" {
		t.Error(got)
	}
}
