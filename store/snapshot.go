package store

import (
	"errors"

	"lychgate/api"
	"lychgate/codec"
	"lychgate/crc"
	"lychgate/fs"
)

const (
	snapPath = "/snap"
	newPath  = "/new"
)

// What a snapshot's file holds ahead of the world: a sum of all behind it, and
// how many events the world stands for.
const (
	sumSize    = 4
	numberSize = 8
	headSize   = sumSize + numberSize
)

// snapshot is codec's bytes of a world, none for no world, and how many events
// it stands for.
type snapshot struct {
	number int64
	world  []byte
}

// loadSnapshot answers the snapshot that is on a file system. None is as one of
// no world that stands for no events.
func loadSnapshot(f *fs.FS) (snapshot, error) {
	b, err := content(f, snapPath)
	switch {
	case errors.Is(err, api.ErrNotFound):
		return snapshot{}, nil
	case errors.Is(err, api.ErrIsDir):
		return snapshot{}, api.ErrBroken
	case err != nil:
		return snapshot{}, err
	}
	return unpack(b)
}

// pack answers the bytes of the snapshot's file.
func (s snapshot) pack() []byte {
	b := make([]byte, headSize, headSize+len(s.world))
	putNumber(b[sumSize:], s.number, numberSize)
	b = append(b, s.world...)
	putNumber(b, int64(crc.Sum(b[sumSize:])), sumSize)
	return b
}

// unpack answers the snapshot whose file holds b.
func unpack(b []byte) (snapshot, error) {
	if len(b) < headSize || getNumber(b, sumSize) != int64(crc.Sum(b[sumSize:])) {
		return snapshot{}, api.ErrBroken
	}
	s := snapshot{number: getNumber(b[sumSize:], numberSize), world: b[headSize:]}
	if s.number < 0 || len(s.world) > 0 && s.read() == nil {
		return snapshot{}, api.ErrBroken
	}
	return s, nil
}

// read answers the world, nil if there is none.
func (s snapshot) read() *api.World {
	w, _ := codec.ReadWorld(s.world)
	return w
}

// save lets the snapshot be the one on a file system, or changes nothing.
func (s snapshot) save(f *fs.FS) error {
	b := s.pack()
	if err := room(f, len(b)); err != nil {
		return err
	}
	err := lay(f, newPath, b)
	if err == nil {
		err = f.Rename(newPath, snapPath)
	}
	if err != nil {
		_ = f.Unlink(newPath)
	}
	return err
}

// room tells why there can't be a new file of n bytes. Whether there is room for
// all of it shows only when it is written; but what can't fit at all shall not be
// written in vain, as far as it goes.
func room(f *fs.FS, n int) error {
	if n > mostBytes {
		return api.ErrBig
	}
	if blocks, _ := f.Free(); n > blocks*api.Sector {
		return api.ErrFull
	}
	return nil
}
