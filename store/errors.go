package store

// failure tells what a store was about when an error came up.
type failure struct {
	about string
	err   error
}

// Error tells it in words.
func (e *failure) Error() string {
	return "store: " + e.about + ": " + e.err.Error()
}

// Unwrap answers the error that came up.
func (e *failure) Unwrap() error {
	return e.err
}

// failed wraps an error, if it is one.
func failed(about string, err error) error {
	if err == nil {
		return nil
	}
	return &failure{about: about, err: err}
}
