package guard

import (
	"errors"
	"testing"

	"caracole/api"
)

// wrapped is an error around another one.
type wrapped struct{ inner error }

func (w wrapped) Error() string { return "wrapped: " + w.inner.Error() }
func (w wrapped) Unwrap() error { return w.inner }

// TestCall: whatever ends the work of a call becomes an error, with a zero value beside it (P1, R3).
func TestCall(t *testing.T) {
	var l []int
	for i, x := range []struct {
		work func() int
		out  int
		want api.Errno
	}{
		{func() int { return 5 }, 5, api.OK},
		{func() int { Fail(api.ErrZero); return 5 }, 0, api.ErrZero},
		{func() int { Check(api.OK); return 5 }, 5, api.OK},
		{func() int { Check(api.ErrLarge); return 5 }, 0, api.ErrLarge},
		{func() int { panic(wrapped{failure{code: api.ErrTwice}}) }, 0, api.ErrTwice},
		{func() int { return l[len(l)] }, 0, api.ErrForm},
		{func() int { panic("a string") }, 0, api.ErrForm},
		{func() int { panic(errors.New("an error")) }, 0, api.ErrForm},
	} {
		if out, e := Call(x.work); out != x.out || e != x.want {
			t.Error(i, out, e, "want", x.out, x.want)
		}
	}
	if got := (failure{code: api.ErrKind}).Error(); got != "error 4" {
		t.Error(got)
	}
}

// TestGet: what another layer returns comes out, or its error.
func TestGet(t *testing.T) {
	for _, want := range []api.Errno{api.OK, api.ErrRange} {
		out, e := Call(func() int { return Get(len("abc"), want) })
		if e != want || (out == 3) != (e == api.OK) {
			t.Error(out, e, "want", want)
		}
	}
}

// TestCallAt: the place comes out with the error, and is 0 where none was named.
func TestCallAt(t *testing.T) {
	for i, x := range []struct {
		work func() string
		out  string
		at   int
		want api.Errno
	}{
		{func() string { return "a" }, "a", 0, api.OK},
		{func() string { FailAt(api.ErrForm, 7); return "a" }, "", 7, api.ErrForm},
		{func() string { Fail(api.ErrLarge); return "a" }, "", 0, api.ErrLarge},
		{func() string { panic(wrapped{failure{code: api.ErrKind, at: 3}}) }, "", 3, api.ErrKind},
		{func() string { panic("a string") }, "", 0, api.ErrForm},
		{func() string { panic(errors.New("an error")) }, "", 0, api.ErrForm},
	} {
		if out, at, e := CallAt(x.work); out != x.out || at != x.at || e != x.want {
			t.Error(i, out, at, e, "want", x.out, x.at, x.want)
		}
	}
	if _, e := Call(func() int { FailAt(api.ErrForm, 7); return 1 }); e != api.ErrForm {
		t.Error(e)
	}
}
