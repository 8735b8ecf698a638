package fs

import (
	"errors"

	"lychgate/api"
)

// PathError tells which method erred, and of which path.
type PathError struct {
	Op, Path string
	Err      error
}

// Error tells it in words.
func (e *PathError) Error() string {
	if e == nil {
		return "no error"
	}
	return e.Op + " " + e.Path + ": " + reason(e.Err)
}

// Unwrap answers what the error is of.
func (e *PathError) Unwrap() error {
	if e == nil {
		return nil
	}
	return e.Err
}

// reason tells an error of api in words. Others are not asked for theirs: a
// PathError that was made elsewhere may wrap itself.
func reason(err error) string {
	for k := api.ErrRange; k <= api.ErrLine; k++ {
		if err == k {
			return k.Error()
		}
	}
	return "another error"
}

// pathError answers err, if it is one, as the error of a method and a path.
func pathError(op, path string, err error) error {
	if err == nil {
		return nil
	}
	var e api.Err
	if errors.As(err, &e) {
		err = e
	}
	return &PathError{Op: op, Path: path, Err: err}
}
