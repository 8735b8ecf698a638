package dirfs

import (
	"bytes"

	"lychgate/api"
	"lychgate/inode"
)

// How an entry stands in a slot: its name, zeros up to the longest one's end,
// then its number; what is left is zeros. A free slot is zeros throughout, as
// if an entry without name and number stood there.
const (
	size   = 32
	nodeAt = api.MaxName
)

// mayBe tells whether an entry may have that number: 0 is no node's.
func mayBe(node int) bool {
	return 0 < node && node < api.MaxInodes
}

// pack answers the slot in which e stands.
func pack(e Entry) []byte {
	b := make([]byte, size)
	copy(b, e.Name)
	b[nodeAt] = byte(e.Node)
	return b
}

// unpack answers what stands in the slot b, the zero Entry if it is free;
// false: no slot is so.
func unpack(b []byte) (Entry, bool) {
	name, _, _ := bytes.Cut(b[:nodeAt], []byte{0})
	e := Entry{Name: string(name), Node: int(b[nodeAt])}
	if e != (Entry{}) && !(May(e.Name) && mayBe(e.Node)) {
		return Entry{}, false
	}
	if !bytes.Equal(pack(e), b) {
		return Entry{}, false
	}
	return e, true
}

// slots answers what stands in each slot of f, the zero Entry in a free one.
func slots(f *inode.File) ([]Entry, error) {
	if f.Size()%size != 0 {
		return nil, api.ErrBroken
	}
	b, err := f.Read(0, f.Size())
	if err != nil {
		return nil, err
	}
	l := make([]Entry, len(b)/size)
	for i := range l {
		e, ok := unpack(b[i*size : (i+1)*size])
		if !ok {
			return nil, api.ErrBroken
		}
		l[i] = e
	}
	return l, nil
}

// put lets e stand in slot i of f.
func put(f *inode.File, i int, e Entry) error {
	return f.Write(i*size, pack(e))
}

// place tells which slot is the first whose entry has that name ("": that is
// free); -1: none.
func place(l []Entry, name string) int {
	for i, e := range l {
		if e.Name == name {
			return i
		}
	}
	return -1
}

// seek answers the slots of f, and which of them name stands in.
func seek(f *inode.File, name string) ([]Entry, int, error) {
	if !May(name) {
		return nil, 0, api.ErrName
	}
	l, err := slots(f)
	if err != nil {
		return nil, 0, err
	}
	i := place(l, name)
	if i < 0 {
		return nil, 0, api.ErrNotFound
	}
	return l, i, nil
}
