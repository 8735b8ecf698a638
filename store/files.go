package store

import (
	"errors"
	"slices"

	"lychgate/api"
	"lychgate/fs"
)

const (
	// mostBytes is how long a file may be.
	mostBytes = api.MaxBlocks * api.Sector
	// named is how many blocks one block names.
	named = api.Sector / 4
)

// with opens the file at path for one call.
func with(f *fs.FS, path string, call func(fd int) error) error {
	fd, err := f.Open(path)
	if err != nil {
		return err
	}
	err = call(fd)
	_ = f.Close(fd)
	return err
}

// content answers what the file at path holds.
func content(f *fs.FS, path string) ([]byte, error) {
	var b []byte
	err := with(f, path, func(fd int) error {
		n, err := f.Size(fd)
		if err != nil {
			return err
		}
		b, err = f.Read(fd, 0, n)
		return err
	})
	return b, err
}

// lay lets the file at path, which may be there already, hold just b. It takes
// as many writes as b needs, so a crash or an error may leave a part of it.
func lay(f *fs.FS, path string, b []byte) error {
	if err := f.Create(path); err != nil && !errors.Is(err, api.ErrExists) {
		return err
	}
	return with(f, path, func(fd int) error {
		if err := f.Truncate(fd, 0); err != nil {
			return err
		}
		at := 0
		for part := range slices.Chunk(b, api.MaxWrite) {
			if err := f.Write(fd, at, part); err != nil {
				return err
			}
			at += len(part)
		}
		return nil
	})
}

// blocks tells how many blocks a file of n bytes takes, those that name others
// included.
func blocks(n int) int {
	data := (n + api.Sector - 1) / api.Sector
	switch {
	case data > api.Direct+named:
		// Two name parts, and one more names the second of these.
		return data + 3
	case data > api.Direct:
		return data + 1
	}
	return data
}

// putNumber lets n stand in the first size bytes of b, the lowest first.
func putNumber(b []byte, n int64, size int) {
	for i := range size {
		b[i] = byte(n >> (8 * i))
	}
}

func getNumber(b []byte, size int) int64 {
	n := int64(0)
	for i := range size {
		n |= int64(b[i]) << (8 * i)
	}
	return n
}
