package fs_test

import (
	"slices"

	"lychgate/api"
	"lychgate/dirfs"
	"lychgate/fs"
)

// thing is a file or a directory of a model. Things are never changed, but
// others take their places, so that states can share them.
type thing struct {
	dir   bool
	slots []dirfs.Entry // of a directory; without a name: free
	data  []byte        // of a file
	has   [api.MaxBlocks]bool
}

func (x *thing) blocks() int {
	n := (len(x.slots)*32 + 511) / 512
	for k, has := range x.has {
		if has {
			n++
		}
		// The first part of each group of 128 behind the first 8 that has one
		// asks for the block that names it.
		if has && k >= 8 && !slices.Contains(x.has[8+(k-8)/128*128:k], true) {
			n++
		}
	}
	if slices.Contains(x.has[136:], true) {
		n++
	}
	return n
}

// state is all things, by their numbers.
type state [32]*thing

func (s *state) blocks() int {
	n := 0
	for _, x := range s {
		if x != nil {
			n += x.blocks()
		}
	}
	return n
}

// enter lets a name stand in the first free slot of a directory.
func (s *state) enter(dir int, e dirfs.Entry) {
	l := slices.Clone(s[dir].slots)
	if k := slices.Index(l, dirfs.Entry{}); k >= 0 {
		l[k] = e
	} else {
		l = append(l, e)
	}
	s[dir] = &thing{dir: true, slots: l}
}

func (s *state) leave(dir int, e dirfs.Entry) {
	l := slices.Clone(s[dir].slots)
	l[slices.Index(l, e)] = dirfs.Entry{}
	s[dir] = &thing{dir: true, slots: l}
}

// model does what the chapter says of a file system, without a disk below it.
type model struct {
	room int // blocks
	now  state
	open [8]int
}

func newModel(sectors int) *model {
	m := &model{room: sectors - 54}
	m.now[1] = &thing{dir: true}
	return m
}

// fresh answers the model as it is mounted.
func (m *model) fresh() *model {
	return &model{room: m.room, now: m.now}
}

// become lets s be the state, if there are blocks for it.
func (m *model) become(s state) error {
	if s.blocks() > m.room {
		return api.ErrFull
	}
	m.now = s
	return nil
}

// spot is where a path leads to: node 0: nothing is there.
type spot struct {
	above []int
	dirfs.Entry
}

func (p spot) dir() int {
	return p.above[len(p.above)-1]
}

func (m *model) walk(path string) (spot, error) {
	names, err := dirfs.Split(path)
	if err != nil {
		return spot{}, err
	}
	p := spot{Entry: dirfs.Entry{Node: 1}}
	for _, name := range names {
		if p.Node == 0 {
			return spot{}, api.ErrNotFound
		}
		x := m.now[p.Node]
		if !x.dir {
			return spot{}, api.ErrNotDir
		}
		p.above, p.Entry = append(p.above, p.Node), dirfs.Entry{Name: name}
		for _, e := range x.slots {
			if e.Name == name {
				p.Node = e.Node
			}
		}
	}
	return p, nil
}

func (m *model) there(path string) (spot, error) {
	p, err := m.walk(path)
	if err == nil && p.Node == 0 {
		return spot{}, api.ErrNotFound
	}
	return p, err
}

func (m *model) empty(node int) bool {
	return !slices.ContainsFunc(m.now[node].slots, func(e dirfs.Entry) bool { return e.Name != "" })
}

func of(op, path string, err error) error {
	if err == nil {
		return nil
	}
	return &fs.PathError{Op: op, Path: path, Err: err}
}

func (m *model) Mkdir(path string) error {
	return of("Mkdir", path, m.add(path, &thing{dir: true}))
}

func (m *model) Create(path string) error {
	return of("Create", path, m.add(path, &thing{}))
}

func (m *model) add(path string, x *thing) error {
	p, err := m.walk(path)
	if err != nil {
		return err
	}
	if p.Node != 0 {
		return api.ErrExists
	}
	s := m.now
	for p.Node = 1; p.Node < 32 && s[p.Node] != nil; p.Node++ {
	}
	if p.Node == 32 {
		return api.ErrFull
	}
	s[p.Node] = x
	s.enter(p.dir(), p.Entry)
	return m.become(s)
}

func (m *model) Unlink(path string) error {
	return of("Unlink", path, m.remove(path))
}

func (m *model) remove(path string) error {
	p, err := m.there(path)
	if err != nil {
		return err
	}
	if p.Node == 1 || slices.Contains(m.open[:], p.Node) {
		return api.ErrBusy
	}
	if !m.empty(p.Node) {
		return api.ErrNotEmpty
	}
	s := m.now
	s[p.Node] = nil
	s.leave(p.dir(), p.Entry)
	return m.become(s)
}

func (m *model) Rename(from, to string) error {
	a, err := m.there(from)
	if err != nil {
		return of("Rename", from, err)
	}
	if a.Node == 1 {
		return of("Rename", from, api.ErrBusy)
	}
	return of("Rename", to, m.move(a, to))
}

func (m *model) move(a spot, to string) error {
	b, err := m.walk(to)
	if err != nil {
		return err
	}
	if b.Node == 1 || slices.Contains(b.above, a.Node) {
		return api.ErrBusy
	}
	if b.Node == a.Node {
		return nil
	}
	s := m.now
	s.leave(a.dir(), a.Entry)
	if b.Node != 0 {
		if err := m.yields(a.Node, b.Node); err != nil {
			return err
		}
		s.leave(b.dir(), b.Entry)
		s[b.Node] = nil
	}
	s.enter(b.dir(), dirfs.Entry{Name: b.Name, Node: a.Node})
	return m.become(s)
}

// yields tells why node b can't give way to node a.
func (m *model) yields(a, b int) error {
	switch {
	case slices.Contains(m.open[:], b):
		return api.ErrBusy
	case m.now[a].dir && !m.now[b].dir:
		return api.ErrNotDir
	case !m.now[a].dir && m.now[b].dir:
		return api.ErrIsDir
	case !m.empty(b):
		return api.ErrNotEmpty
	}
	return nil
}

func (m *model) List(path string) ([]dirfs.Entry, error) {
	p, err := m.there(path)
	if err == nil && !m.now[p.Node].dir {
		err = api.ErrNotDir
	}
	if err != nil {
		return nil, of("List", path, err)
	}
	l := slices.DeleteFunc(slices.Clone(m.now[p.Node].slots), func(e dirfs.Entry) bool { return e.Name == "" })
	slices.SortFunc(l, func(a, b dirfs.Entry) int {
		if a.Name < b.Name {
			return -1
		}
		return 1
	})
	return l, nil
}

func (m *model) Open(path string) (int, error) {
	p, err := m.there(path)
	fd := slices.Index(m.open[:], 0)
	switch {
	case err != nil:
		return 0, of("Open", path, err)
	case m.now[p.Node].dir:
		return 0, of("Open", path, api.ErrIsDir)
	case fd < 0:
		return 0, of("Open", path, api.ErrFull)
	}
	m.open[fd] = p.Node
	return fd, nil
}

// file answers the node that fd stands for; 0: it isn't open.
func (m *model) file(fd int) int {
	if fd < 0 || fd > 7 {
		return 0
	}
	return m.open[fd]
}

func (m *model) Close(fd int) error {
	if m.file(fd) == 0 {
		return api.ErrRange
	}
	m.open[fd] = 0
	return nil
}

func (m *model) Read(fd, at, n int) ([]byte, error) {
	if m.file(fd) == 0 || at < 0 || n < 0 {
		return nil, api.ErrRange
	}
	b := m.now[m.file(fd)].data
	b = b[min(at, len(b)):]
	return slices.Clone(b[:min(n, len(b))]), nil
}

func (m *model) Size(fd int) (int, error) {
	if m.file(fd) == 0 {
		return 0, api.ErrRange
	}
	return len(m.now[m.file(fd)].data), nil
}

func (m *model) Write(fd, at int, b []byte) error {
	switch {
	case m.file(fd) == 0 || at < 0:
		return api.ErrRange
	case len(b) > 4096:
		return api.ErrBig
	case len(b) == 0:
		return nil
	case at > 102400-len(b):
		return api.ErrBig
	}
	was := m.now[m.file(fd)]
	x := &thing{data: make([]byte, max(len(was.data), at+len(b))), has: was.has}
	copy(x.data, was.data)
	copy(x.data[at:], b)
	for i := range b {
		x.has[(at+i)/512] = true
	}
	s := m.now
	s[m.file(fd)] = x
	return m.become(s)
}

func (m *model) Truncate(fd, n int) error {
	if m.file(fd) == 0 || n < 0 {
		return api.ErrRange
	}
	if n > 102400 {
		return api.ErrBig
	}
	was := m.now[m.file(fd)]
	x := &thing{data: make([]byte, n), has: was.has}
	copy(x.data, was.data)
	clear(x.has[(n+511)/512:])
	s := m.now
	s[m.file(fd)] = x
	return m.become(s)
}

func (m *model) Sync() error {
	return nil
}

func (m *model) Free() (int, int) {
	nodes := 0
	for _, x := range m.now[1:] {
		if x == nil {
			nodes++
		}
	}
	return m.room - m.now.blocks(), nodes
}
