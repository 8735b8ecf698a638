package fs

import (
	"slices"

	"lychgate/api"
	"lychgate/inode"
)

// isOpen tells whether a descriptor stands for node i.
func (f *FS) isOpen(i int) bool {
	return slices.Contains(f.open[:], i)
}

// node answers what fd stands for.
func (f *FS) node(fd int) (int, error) {
	if !f.works() || fd < 0 || fd >= len(f.open) || f.open[fd] == 0 {
		return 0, api.ErrRange
	}
	return f.open[fd], nil
}

// Open answers a descriptor of a file, to read and write it.
func (f *FS) Open(path string) (int, error) {
	if !f.works() {
		return 0, api.ErrRange
	}
	p, err := f.now.reach(path)
	if err == nil && f.now.kind(p.node) == directory {
		err = api.ErrIsDir
	}
	fd := slices.Index(f.open[:], 0)
	if err == nil && fd < 0 {
		err = api.ErrFull
	}
	if err != nil {
		return 0, pathError("Open", path, err)
	}
	f.open[fd] = p.node
	return fd, nil
}

// Close gives a descriptor back.
func (f *FS) Close(fd int) error {
	if _, err := f.node(fd); err != nil {
		return err
	}
	f.open[fd] = 0
	return nil
}

// Read answers what is there of n bytes from at on.
func (f *FS) Read(fd, at, n int) ([]byte, error) {
	i, err := f.node(fd)
	if err != nil {
		return nil, err
	}
	c, err := f.now.load(i)
	if err != nil {
		return nil, err
	}
	return c.Read(at, n)
}

// Write lets b stand at at.
func (f *FS) Write(fd, at int, b []byte) error {
	i, err := f.node(fd)
	if err != nil {
		return err
	}
	// A file would tell that, too, but only behind ErrBig.
	if at < 0 {
		return api.ErrRange
	}
	if len(b) > api.MaxWrite {
		return api.ErrBig
	}
	return f.change(func(s *system) error {
		return s.edit(i, func(c *inode.File) error { return c.Write(at, b) })
	})
}

// Truncate lets the file have n bytes.
func (f *FS) Truncate(fd, n int) error {
	i, err := f.node(fd)
	if err != nil {
		return err
	}
	return f.change(func(s *system) error {
		return s.edit(i, func(c *inode.File) error { return c.Truncate(n) })
	})
}

// Size tells how many bytes the file has.
func (f *FS) Size(fd int) (int, error) {
	i, err := f.node(fd)
	if err != nil {
		return 0, err
	}
	c, err := f.now.load(i)
	return c.Size(), err
}
