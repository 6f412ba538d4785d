package path

import (
	"errors"

	"slabvault/api"
)

// fault is what is wrong with a text or a list: it wraps its number, and says how many names stand ahead.
type fault struct {
	api.Errno
	ahead int
}

// Unwrap tells the number.
func (f fault) Unwrap() error { return f.Errno }

// told tells what a call answers of an error: where it is, and its number.
func told(err error) (at int, e api.Errno) {
	var f fault
	if errors.As(err, &f) {
		at = f.ahead
	}
	switch {
	case errors.Is(err, api.ErrBig):
		e = api.ErrBig
	case errors.Is(err, api.ErrPath):
		e = api.ErrPath
	case errors.Is(err, api.ErrName):
		e = api.ErrName
	}
	return at, e
}
