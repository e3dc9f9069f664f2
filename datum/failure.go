package datum

import (
	"errors"

	"caracole/api"
)

// failure is the error that ends the work of a call.
type failure struct{ code api.Errno }

func (f failure) Error() string { return "datum: " + f.code.Error() }

func fail(code api.Errno) { panic(failure{code}) }

// limit fails if a result would have too many pieces. It is asked before the result is made, which could be much larger than any datum may be.
func limit(pieces int) {
	if pieces > api.DatumSize {
		fail(api.ErrLarge)
	}
}

// guard does the work of an exported function, and returns the error with which it was ended, if it was.
func guard[T any](work func() T) (out T, e api.Errno) {
	defer func() {
		if r := recover(); r != nil {
			e = codeOf(r)
		}
	}()
	return work(), api.OK
}

func codeOf(r any) api.Errno {
	if err, ok := r.(error); ok {
		var f failure
		if errors.As(err, &f) {
			return f.code
		}
	}
	return api.ErrForm // no panic but a failure is expected; callers are promised an error all the same
}
