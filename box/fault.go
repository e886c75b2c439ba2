package box

import (
	"errors"

	"wringer/api"
)

// fault is an error of a part of a container, with what was wrong within.
type fault struct {
	part string
	err  error
}

// wrong tells what was wrong with a part.
func wrong(part string, err error) error { return &fault{part: part, err: err} }

// Error tells the part, and what was wrong within.
func (f *fault) Error() string { return f.part + ": " + f.err.Error() }

// Unwrap tells what was wrong within.
func (f *fault) Unwrap() error { return f.err }

// number tells an error's: OK, of none.
func number(err error) api.Errno {
	e := api.OK
	errors.As(err, &e)
	return e
}
