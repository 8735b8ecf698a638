package journal

import (
	"bytes"

	"lychgate/api"
	"lychgate/crc"
)

// What stands ahead of a record's bytes: how many they are, and the sum of
// that number and of them.
const (
	sumAt    = 4
	headSize = 8
	// most is how many bytes a record may have: so many that one write of the
	// file system takes it with its head.
	most = api.MaxRecord - headSize
)

// Frame answers b as a record.
func Frame(b []byte) ([]byte, error) {
	if len(b) > most {
		return nil, api.ErrBig
	}
	r := make([]byte, headSize+len(b))
	put32(r, uint32(len(b)))
	put32(r[sumAt:], crc.Sum(r[:sumAt], b))
	copy(r[headSize:], b)
	return r, nil
}

// Scan answers what the whole records at the beginning of b hold, and how many
// bytes they take.
func Scan(b []byte) ([][]byte, int) {
	var l [][]byte
	rest := b
	for {
		r, ok := first(rest)
		if !ok {
			return l, len(b) - len(rest)
		}
		l = append(l, bytes.Clone(r))
		rest = rest[headSize+len(r):]
	}
}

// first answers what the record at the beginning of b holds, as a piece of b;
// false: there is no whole one.
func first(b []byte) ([]byte, bool) {
	if len(b) < headSize {
		return nil, false
	}
	n := int(get32(b))
	// Frame makes none that is longer, whatever its sum.
	if n > most || n > len(b)-headSize {
		return nil, false
	}
	r := b[headSize : headSize+n]
	return r, get32(b[sumAt:]) == crc.Sum(b[:sumAt], r)
}

// put32 lets n stand at the beginning of b, the lowest byte first.
func put32(b []byte, n uint32) {
	for i := range 4 {
		b[i] = byte(n >> (8 * i))
	}
}

func get32(b []byte) uint32 {
	return uint32(b[0]) | uint32(b[1])<<8 | uint32(b[2])<<16 | uint32(b[3])<<24
}
