package fs

import (
	"bytes"
	"slices"

	"lychgate/api"
	"lychgate/inode"
)

// sound tells whether a disk of so many sectors holds a file system: all that
// operations go by is looked at, so that none of them meets what can't be.
func (s *system) sound(sectors int) bool {
	return s.shaped() && s.named() && s.counted(sectors)
}

// shaped tells whether the mark, and a kind for each node, stand where they
// should, and nothing beside them and in free nodes.
func (s *system) shaped() bool {
	var head sector
	copy(head[:], mark)
	for i := range api.MaxInodes {
		k := s.kind(i)
		if k > directory || k == none && !bytes.Equal(s.node(i), make([]byte, nodeSize)) {
			return false
		}
		head[kindsAt+i] = byte(k)
	}
	return head == s.sectors[headAt]
}

// named tells whether all nodes hang on the root, each by one name.
func (s *system) named() bool {
	names := [api.MaxInodes]int{root: 1}
	if s.kind(root) != directory {
		return false
	}
	for todo := []int{root}; len(todo) > 0; todo = todo[1:] {
		l, err := s.list(todo[0])
		if err != nil {
			return false
		}
		for k, e := range l {
			names[e.Node]++
			if names[e.Node] > 1 || k > 0 && l[k-1].Name == e.Name {
				return false
			}
			if s.kind(e.Node) == directory {
				todo = append(todo, e.Node)
			}
		}
	}
	for i, n := range names {
		if (n == 0) != (s.kind(i) == none) {
			return false
		}
	}
	return true
}

// counted tells whether the blocks that are taken are those of the nodes, and
// no block is two nodes'.
func (s *system) counted(sectors int) bool {
	m := reserved(sectors)
	for i := range api.MaxInodes {
		if s.kind(i) == none {
			continue
		}
		blocks, ok := s.blocks(i)
		if !ok {
			return false
		}
		for _, n := range blocks {
			if m.Set(n) != nil {
				return false
			}
		}
	}
	return bytes.Equal(m.Bytes(), s.sectors[takenAt][:])
}

// blocks answers the blocks of node i; false: its file is none.
func (s *system) blocks(i int) ([]int, bool) {
	w := witness{system: s}
	f, err := inode.Load(&w, s.node(i))
	if err != nil || !readable(f) {
		return nil, false
	}
	slices.Sort(w.asked)
	return slices.Compact(w.asked), true
}

// readable tells whether a file can be read, and its last block holds zeros
// behind the file's end, as one that may grow has to. The file grows by that,
// but only here.
func readable(f *inode.File) bool {
	n := f.Size()
	if f.Truncate((n+api.Sector-1)/api.Sector*api.Sector) != nil {
		return false
	}
	b, err := f.Read(0, f.Size())
	return err == nil && len(bytes.Trim(b[n:], "\x00")) == 0
}

// witness is a store that remembers which blocks it was asked for: a file that
// is loaded and read asks for all that it has.
type witness struct {
	*system
	asked []int
}

// Get answers what block n holds.
func (w *witness) Get(n int) ([]byte, error) {
	w.asked = append(w.asked, n)
	return w.system.Get(n)
}
