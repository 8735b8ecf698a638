package worlddb

import (
	"lychgate/api"
	"lychgate/lines"
)

// LineError tells which line of a file is none.
type LineError struct {
	Line int
	Err  error
}

// Error tells it in words.
func (e *LineError) Error() string {
	if e == nil {
		return "no error"
	}
	return "line " + lines.Print(int64(e.Line)) + ": " + reason(e.Err)
}

// Unwrap answers what the error is of.
func (e *LineError) Unwrap() error {
	if e == nil {
		return nil
	}
	return e.Err
}

// reason tells an error of api in words. Others are not asked for theirs: a
// LineError that was made elsewhere may wrap itself.
func reason(err error) string {
	for k := api.ErrRange; k <= api.ErrLine; k++ {
		if err == k {
			return k.Error()
		}
	}
	return "another error"
}
