// Package guard lets the work of a call end with an error from anywhere inside of it. All layers use it.
package guard

import (
	"errors"

	"caracole/api"
)

// failure is the error that ends the work of a call.
type failure struct{ code api.Errno }

func (f failure) Error() string { return f.code.Error() }

// Fail ends the work that Call does with an error.
func Fail(code api.Errno) { panic(failure{code}) }

// Check ends the work that Call does unless there is no error.
func Check(e api.Errno) {
	if e != api.OK {
		Fail(e)
	}
}

// Call does the work of an exported function, and returns the error with which it was ended, if it was.
func Call[T any](work func() T) (out T, e api.Errno) {
	defer func() {
		if r := recover(); r != nil {
			e = codeOf(r)
		}
	}()
	return work(), api.OK
}

func codeOf(r any) api.Errno {
	if err, ok := r.(error); ok {
		var f failure
		if errors.As(err, &f) {
			return f.code
		}
	}
	return api.ErrForm // no panic but a failure is expected; callers are promised an error all the same
}
