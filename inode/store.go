package inode

import (
	"math"
	"slices"

	"lychgate/api"
)

// Store gives out blocks and keeps what is put into them.
type Store interface {
	Get(n int) ([]byte, error)
	Put(n int, b []byte) error
	Take() (int, error)
	Free(n int) error
}

// block is what a block holds. The store is handed copies and what it answers
// is copied: it may keep the one, and go on to write into the other.
type block [api.Sector]byte

// storeError tells what the store was asked for when it erred.
type storeError struct {
	asked string
	err   error
}

// Error tells it in words.
func (e *storeError) Error() string {
	return e.asked + " of a block: " + e.err.Error()
}

// Unwrap answers the store's own error.
func (e *storeError) Unwrap() error {
	return e.err
}

// ask makes a call to the store. A store comes from outside: where it panics,
// that is an error of it as any other.
func ask(name string, call func() error) (err error) {
	defer func() {
		if recover() != nil {
			err = &storeError{asked: name, err: api.ErrBroken}
		}
	}()
	if err = call(); err != nil {
		err = &storeError{asked: name, err: err}
	}
	return err
}

// get answers what block n holds; what isn't there reads as zeros.
func (f *File) get(n uint32) (block, error) {
	var b block
	if n == 0 {
		return b, nil
	}
	err := ask("Get", func() error {
		got, err := f.store.Get(int(n))
		if err != nil {
			return err
		}
		if len(got) != len(b) {
			return api.ErrBroken
		}
		b = block(got)
		return nil
	})
	return b, err
}

// put lets block n, if there is one, hold b.
func (f *File) put(n uint32, b block) error {
	if n == 0 {
		return nil
	}
	return ask("Put", func() error { return f.store.Put(int(n), b[:]) })
}

// free gives back block n, if there is one.
func (f *File) free(n uint32) error {
	if n == 0 {
		return nil
	}
	return ask("Free", func() error { return f.store.Free(int(n)) })
}

// take answers the number of a new block for a file that has those of t.
func (f *File) take(t *table) (uint32, error) {
	var n uint32
	err := ask("Take", func() error {
		got, err := f.store.Take()
		switch {
		case err != nil:
			return err
		case got > math.MaxUint32:
			// It is a block, but none that another one could name.
			_ = f.store.Free(got)
			return api.ErrBroken
		case got < 1 || slices.Contains(t[:], uint32(got)):
			return api.ErrBroken
		}
		n = uint32(got)
		return nil
	})
	return n, err
}
