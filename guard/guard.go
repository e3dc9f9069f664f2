// Package guard lets the work of a call end with an error from anywhere inside of it. All layers use it.
package guard

import (
	"errors"

	"caracole/api"
)

// failure is the error that ends the work of a call, and the place in a text where it is, if it is in one.
type failure struct {
	code api.Errno
	at   int
}

func (f failure) Error() string { return f.code.Error() }

// Fail ends the work that Call does with an error.
func Fail(code api.Errno) { FailAt(code, 0) }

// FailAt ends the work that CallAt does with an error at a place.
func FailAt(code api.Errno, at int) { panic(failure{code: code, at: at}) }

// Check ends the work that Call does unless there is no error.
func Check(e api.Errno) {
	if e != api.OK {
		Fail(e)
	}
}

// Get returns what another layer returns, and ends the work that Call does if that is an error.
func Get[T any](x T, e api.Errno) T {
	Check(e)
	return x
}

// Call does the work of an exported function, and returns the error with which it was ended, if it was.
func Call[T any](work func() T) (T, api.Errno) {
	out, _, e := CallAt(work)
	return out, e
}

// CallAt is Call for work on a text, and returns the place of the error, too.
func CallAt[T any](work func() T) (out T, at int, e api.Errno) {
	defer func() {
		switch r := recover().(type) {
		case nil:
		case error:
			f := failureOf(r)
			at, e = f.at, f.code
		default:
			e = api.ErrForm
		}
	}()
	return work(), 0, api.OK
}

func failureOf(err error) failure {
	var f failure
	if !errors.As(err, &f) {
		f.code = api.ErrForm // no panic but a failure is expected; callers are promised an error all the same
	}
	return f
}
