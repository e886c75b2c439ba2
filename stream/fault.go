package stream

import (
	"errors"
	"strconv"

	"wringer/api"
)

// Fault is what went wrong, with the place where it did: a file, and one of its sectors (the first one, if it is the file as a whole).
type Fault struct {
	Name   string
	Sector int
	Errno  api.Errno
}

// Error tells the place, and what went wrong there.
func (f *Fault) Error() string {
	return f.Name + ", sector " + strconv.Itoa(f.Sector) + ": " + f.Errno.Error()
}

// Unwrap tells the error's number.
func (f *Fault) Unwrap() error { return f.Errno }

// At tells an error of a file as a whole; none, if e is OK.
func At(name string, e api.Errno) error { return at(name, 0, e) }

// at tells an error of one of a file's sectors; none, if e is OK.
func at(name string, sector int, e api.Errno) error {
	if e == api.OK {
		return nil
	}
	return &Fault{Name: name, Sector: sector, Errno: e}
}

// number tells the number within an error: OK, if there is none.
func number(err error) api.Errno {
	var e api.Errno
	errors.As(err, &e)
	return e
}
