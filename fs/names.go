package fs

import (
	"slices"

	"lychgate/api"
	"lychgate/dirfs"
)

// Mkdir makes an empty directory.
func (f *FS) Mkdir(path string) error {
	return f.makeNode("Mkdir", path, directory)
}

// Create makes an empty file.
func (f *FS) Create(path string) error {
	return f.makeNode("Create", path, file)
}

// makeNode makes a new node.
func (f *FS) makeNode(op, path string, k kind) error {
	if !f.works() {
		return api.ErrRange
	}
	p, err := f.now.follow(path)
	if err == nil && p.node != 0 {
		err = api.ErrExists
	}
	if err != nil {
		return pathError(op, path, err)
	}
	err = f.change(func(s *system) error {
		i, err := s.newNode(k)
		if err != nil {
			return err
		}
		return s.addName(p, i)
	})
	return pathError(op, path, err)
}

// Unlink makes a file or an empty directory go.
func (f *FS) Unlink(path string) error {
	if !f.works() {
		return api.ErrRange
	}
	p, err := f.now.reach(path)
	if err == nil {
		err = f.removable(p.node)
	}
	if err != nil {
		return pathError("Unlink", path, err)
	}
	err = f.change(func(s *system) error {
		if err := s.removeName(p); err != nil {
			return err
		}
		return s.freeNode(p.node)
	})
	return pathError("Unlink", path, err)
}

// removable tells why a node can't go.
func (f *FS) removable(i int) error {
	if i == root || f.isOpen(i) {
		return api.ErrBusy
	}
	if f.now.kind(i) == file {
		return nil
	}
	l, err := f.now.list(i)
	if err == nil && len(l) > 0 {
		err = api.ErrNotEmpty
	}
	return err
}

// Rename lets what is at from be at to.
func (f *FS) Rename(from, to string) error {
	if !f.works() {
		return api.ErrRange
	}
	a, err := f.now.reach(from)
	if err == nil && a.node == root {
		err = api.ErrBusy
	}
	if err != nil {
		return pathError("Rename", from, err)
	}
	b, err := f.now.follow(to)
	if err == nil {
		err = f.movable(a, b)
	}
	if err == nil && a.node != b.node {
		err = f.change(func(s *system) error { return s.move(a, b) })
	}
	return pathError("Rename", to, err)
}

// movable tells why what is at a can't go to b.
func (f *FS) movable(a, b place) error {
	if b.node == root || slices.Contains(b.way, a.node) {
		return api.ErrBusy
	}
	if b.node == 0 || b.node == a.node {
		return nil
	}
	if f.isOpen(b.node) {
		return api.ErrBusy
	}
	switch ka, kb := f.now.kind(a.node), f.now.kind(b.node); {
	case ka == directory && kb == file:
		return api.ErrNotDir
	case ka == file && kb == directory:
		return api.ErrIsDir
	}
	return f.removable(b.node)
}

// move lets what is at a be at b, instead of what is there. The old names go
// first, so that the new one finds the room that they had.
func (s *system) move(a, b place) error {
	if err := s.removeName(a); err != nil {
		return err
	}
	if b.node != 0 {
		if err := s.removeName(b); err != nil {
			return err
		}
		if err := s.freeNode(b.node); err != nil {
			return err
		}
	}
	return s.addName(b, a.node)
}

// List answers what is in a directory, by names rising.
func (f *FS) List(path string) ([]dirfs.Entry, error) {
	if !f.works() {
		return nil, api.ErrRange
	}
	p, err := f.now.reach(path)
	if err == nil && f.now.kind(p.node) != directory {
		err = api.ErrNotDir
	}
	if err != nil {
		return nil, pathError("List", path, err)
	}
	l, err := f.now.list(p.node)
	return l, pathError("List", path, err)
}
