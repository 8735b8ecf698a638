package fs

import (
	"errors"

	"lychgate/api"
	"lychgate/dirfs"
	"lychgate/inode"
)

// place is where a path leads to.
type place struct {
	way  []int  // the directories that it goes through, from the root on
	name string // in the last one of them; the root has no name
	node int    // what is there; 0: nothing
}

// parent answers the directory that the place is in. The root is in none.
func (p place) parent() int {
	return p.way[len(p.way)-1]
}

// follow goes along a path.
func (s *system) follow(path string) (place, error) {
	names, err := dirfs.Split(path)
	if err != nil {
		return place{}, err
	}
	p := place{node: root}
	for _, name := range names {
		switch s.kind(p.node) {
		case none:
			return place{}, api.ErrNotFound
		case file:
			return place{}, api.ErrNotDir
		}
		p.way, p.name = append(p.way, p.node), name
		p.node, err = s.find(p.node, name)
		if err != nil {
			return place{}, err
		}
	}
	return p, nil
}

// reach goes along a path that shall lead to something.
func (s *system) reach(path string) (place, error) {
	p, err := s.follow(path)
	if err == nil && p.node == 0 {
		return place{}, api.ErrNotFound
	}
	return p, err
}

// find answers the node that a name has in directory i; 0: none.
func (s *system) find(i int, name string) (int, error) {
	f, err := s.load(i)
	if err != nil {
		return 0, err
	}
	n, err := dirfs.Find(f, name)
	if errors.Is(err, api.ErrNotFound) {
		return 0, nil
	}
	return n, err
}

// list answers all entries of directory i.
func (s *system) list(i int) ([]dirfs.Entry, error) {
	f, err := s.load(i)
	if err != nil {
		return nil, err
	}
	return dirfs.List(f)
}

// addName gives a node the name of a place.
func (s *system) addName(p place, node int) error {
	return s.edit(p.parent(), func(f *inode.File) error { return dirfs.Add(f, p.name, node) })
}

// removeName takes the name of a place away.
func (s *system) removeName(p place) error {
	return s.edit(p.parent(), func(f *inode.File) error { return dirfs.Remove(f, p.name) })
}
