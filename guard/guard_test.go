package guard

import (
	"errors"
	"testing"

	"caracole/api"
)

// wrapped is an error around another one.
type wrapped struct{ inner error }

func (w wrapped) Error() string { return "wrapped: " + w.inner.Error() }
func (w wrapped) Unwrap() error { return w.inner }

// TestCall: whatever ends the work of a call becomes an error, with a zero value beside it (P1, R3).
func TestCall(t *testing.T) {
	var l []int
	for i, x := range []struct {
		work func() int
		out  int
		want api.Errno
	}{
		{func() int { return 5 }, 5, api.OK},
		{func() int { Fail(api.ErrZero); return 5 }, 0, api.ErrZero},
		{func() int { Check(api.OK); return 5 }, 5, api.OK},
		{func() int { Check(api.ErrLarge); return 5 }, 0, api.ErrLarge},
		{func() int { panic(wrapped{failure{api.ErrTwice}}) }, 0, api.ErrTwice},
		{func() int { return l[len(l)] }, 0, api.ErrForm},
		{func() int { panic("a string") }, 0, api.ErrForm},
		{func() int { panic(errors.New("an error")) }, 0, api.ErrForm},
	} {
		if out, e := Call(x.work); out != x.out || e != x.want {
			t.Error(i, out, e, "want", x.out, x.want)
		}
	}
	if got := (failure{api.ErrKind}).Error(); got != "error 4" {
		t.Error(got)
	}
}
