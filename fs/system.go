package fs

import (
	"lychgate/api"
	"lychgate/bitmap"
	"lychgate/inode"
	"lychgate/wal"
)

// What the sectors of the system hold: the first one the mark and the kinds of
// the nodes, the next one a map of the sectors that are no free blocks, the
// others the files of the nodes.
const (
	headAt = iota
	takenAt
	nodesAt
	size = nodesAt + api.MaxInodes*nodeSize/api.Sector
)

const (
	mark     = "lychgate"
	kindsAt  = len(mark)
	nodeSize = 64
	root     = 1
	// The disk's sectors behind the log and the system are blocks, each with
	// its sector's number.
	blocksAt = api.LogSectors + size
)

// kind is what a node is. Number 0, of which there is no node, is none, too.
type kind byte

const (
	none kind = iota
	file
	directory
)

type sector [api.Sector]byte

// system is what the file system knows of itself: what its own sectors hold, as
// a value, so that an operation can work on a copy. It is the store of files.
type system struct {
	log     *wal.Log
	sectors [size]sector
}

// read answers the system on a disk, whatever stands there.
func read(l *wal.Log) system {
	s := system{log: l}
	for k := range s.sectors {
		b, _ := l.Read(api.LogSectors + k)
		copy(s.sectors[k][:], b)
	}
	return s
}

// empty answers the system of a disk of so many sectors that holds nothing but
// an empty root.
func empty(l *wal.Log, sectors int) (system, error) {
	s := system{log: l}
	copy(s.sectors[headAt][:], mark)
	s.keep(reserved(sectors))
	_, err := s.newNode(directory)
	return s, err
}

// reserved answers the map of the sectors that are no blocks of a disk of so
// many. It has a bit for each sector that any disk may have, which fills just
// one sector.
func reserved(sectors int) *bitmap.Map {
	m := bitmap.New(api.MaxSectors)
	for i := range api.MaxSectors {
		if i < blocksAt || i >= sectors {
			_ = m.Set(i)
		}
	}
	return m
}

// save puts what is other than it was.
func (s *system) save(was system) error {
	for k, b := range s.sectors {
		if b == was.sectors[k] {
			continue
		}
		if err := s.log.Put(api.LogSectors+k, b[:]); err != nil {
			return err
		}
	}
	return nil
}

// taken answers a copy of the map of what is taken.
func (s *system) taken() *bitmap.Map {
	m, _ := bitmap.Load(api.MaxSectors, s.sectors[takenAt][:])
	return m
}

// keep lets m be the map of what is taken.
func (s *system) keep(m *bitmap.Map) {
	copy(s.sectors[takenAt][:], m.Bytes())
}

// Get answers what block n holds.
func (s *system) Get(n int) ([]byte, error) {
	return s.log.Read(n)
}

// Put lets block n hold b.
func (s *system) Put(n int, b []byte) error {
	return s.log.Put(n, b)
}

// Take takes the least block that is free.
func (s *system) Take() (int, error) {
	m := s.taken()
	n, err := m.Take()
	s.keep(m)
	return n, err
}

// Free makes block n free.
func (s *system) Free(n int) error {
	m := s.taken()
	err := m.Free(n)
	s.keep(m)
	return err
}

// kind tells what node i is.
func (s *system) kind(i int) kind {
	return kind(s.sectors[headAt][kindsAt+i])
}

func (s *system) setKind(i int, k kind) {
	s.sectors[headAt][kindsAt+i] = byte(k)
}

// node answers the bytes of node i's file, as they stand in the system itself.
func (s *system) node(i int) []byte {
	at := i * nodeSize
	return s.sectors[nodesAt+at/api.Sector][at%api.Sector:][:nodeSize]
}

// nodesLeft tells how many nodes are free.
func (s *system) nodesLeft() int {
	left := 0
	for i := root; i < api.MaxInodes; i++ {
		if s.kind(i) == none {
			left++
		}
	}
	return left
}

// newNode makes the least free node an empty one of that kind.
func (s *system) newNode(k kind) (int, error) {
	for i := root; i < api.MaxInodes; i++ {
		if s.kind(i) == none {
			s.setKind(i, k)
			copy(s.node(i), inode.New(s).Bytes())
			return i, nil
		}
	}
	return 0, api.ErrFull
}

// freeNode makes node i and all its blocks free.
func (s *system) freeNode(i int) error {
	err := s.edit(i, func(f *inode.File) error { return f.Truncate(0) })
	if err != nil {
		return err
	}
	s.setKind(i, none)
	clear(s.node(i))
	return nil
}

// load answers the file of node i.
func (s *system) load(i int) (*inode.File, error) {
	return inode.Load(s, s.node(i))
}

// edit changes the file of node i.
func (s *system) edit(i int, change func(f *inode.File) error) error {
	f, err := s.load(i)
	if err != nil {
		return err
	}
	if err := change(f); err != nil {
		return err
	}
	copy(s.node(i), f.Bytes())
	return nil
}
