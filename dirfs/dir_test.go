package dirfs_test

import (
	"bytes"
	"errors"
	"slices"
	"strings"
	"testing"

	"lychgate/api"
	"lychgate/dirfs"
	"lychgate/inode"
)

// errDown is an error that the project knows nothing of.
var errDown = errors.New("down")

// rack is a store of a few blocks. A call of it fails when its turn has come.
type rack struct {
	held map[int][]byte
	room int
	last int // the greatest number given out
	turn int // calls until one fails; 0: none does
}

func newRack(room int) *rack {
	return &rack{held: map[int][]byte{}, room: room}
}

func (r *rack) down() bool {
	if r.turn == 0 {
		return false
	}
	r.turn--
	return r.turn == 0
}

func (r *rack) Get(n int) ([]byte, error) {
	if r.down() {
		return nil, errDown
	}
	return bytes.Clone(r.held[n]), nil
}

func (r *rack) Put(n int, b []byte) error {
	if r.down() {
		return errDown
	}
	r.held[n] = bytes.Clone(b)
	return nil
}

func (r *rack) Take() (int, error) {
	if r.down() {
		return 0, errDown
	}
	if len(r.held) == r.room {
		return 0, api.ErrFull
	}
	r.last++
	r.held[r.last] = make([]byte, api.Sector)
	return r.last, nil
}

func (r *rack) Free(n int) error {
	if r.down() {
		return errDown
	}
	delete(r.held, n)
	return nil
}

// model is a directory as the chapter tells it: its slots, blank ones free.
type model []dirfs.Entry

var free = dirfs.Entry{}

func (m model) at(name string) int {
	return slices.IndexFunc(m, func(e dirfs.Entry) bool { return e.Name == name })
}

func (m *model) add(e dirfs.Entry) {
	if i := m.at(""); i >= 0 {
		(*m)[i] = e
		return
	}
	*m = append(*m, e)
}

func (m model) list() []dirfs.Entry {
	var l []dirfs.Entry
	for _, e := range m {
		if e != free {
			l = append(l, e)
		}
	}
	slices.SortFunc(l, func(a, b dirfs.Entry) int { return strings.Compare(a.Name, b.Name) })
	return l
}

// named makes the entries of names, numbered from 1 on.
func named(names ...string) []dirfs.Entry {
	var l []dirfs.Entry
	for i, name := range names {
		l = append(l, dirfs.Entry{Name: name, Node: 1 + i%31})
	}
	return l
}

// many makes n entries with names of all lengths, in no order.
func many(n int) []dirfs.Entry {
	var names []string
	for i := range n {
		name := []byte{letters[i%39], letters[i/39%39], letters[i/1521%39], '!'}
		name = bytes.TrimRight(name, "!")
		if i%3 == 0 {
			name = append(name, strings.Repeat("x", 1+i%21)...)
		}
		names = append(names, string(name))
	}
	return named(names...)
}

func add(t testing.TB, f *inode.File, l ...dirfs.Entry) {
	t.Helper()
	for _, e := range l {
		if err := dirfs.Add(f, e.Name, e.Node); err != nil {
			t.Fatalf("Add(%q, %d): %v", e.Name, e.Node, err)
		}
	}
}

func remove(t testing.TB, f *inode.File, names ...string) {
	t.Helper()
	for _, name := range names {
		if err := dirfs.Remove(f, name); err != nil {
			t.Fatalf("Remove(%q): %v", name, err)
		}
	}
}

// raw answers all bytes of a file.
func raw(t testing.TB, f *inode.File) []byte {
	t.Helper()
	b, err := f.Read(0, f.Size())
	if err != nil {
		t.Fatal(err)
	}
	return b
}

// fill lets a file have other bytes.
func fill(t testing.TB, f *inode.File, b []byte) {
	t.Helper()
	if err := errors.Join(f.Truncate(0), f.Write(0, b)); err != nil {
		t.Fatal(err)
	}
}

// slot answers the bytes of the slot in which e stands, or which is free.
func slot(t testing.TB, e dirfs.Entry) []byte {
	t.Helper()
	f := inode.New(newRack(1))
	if e == free {
		add(t, f, dirfs.Entry{Name: "a", Node: 1})
		remove(t, f, "a")
	} else {
		add(t, f, e)
	}
	return raw(t, f)
}

// laid answers the bytes of the whole directory.
func (m model) laid(t testing.TB) []byte {
	t.Helper()
	var b []byte
	for _, e := range m {
		b = append(b, slot(t, e)...)
	}
	return b
}

// made makes a directory with these slots, in a store with room to spare.
func (m model) made(t testing.TB) *inode.File {
	t.Helper()
	f := inode.New(newRack(500))
	fill(t, f, m.laid(t))
	return f
}

// holds checks that f is the directory of m, slot by slot.
func holds(t testing.TB, f *inode.File, m model) {
	t.Helper()
	if f.Size() != 32*len(m) || !bytes.Equal(raw(t, f), m.laid(t)) {
		t.Errorf("%d bytes that aren't the slots of %v", f.Size(), m)
	}
	if l, err := dirfs.List(f); err != nil || !slices.Equal(l, m.list()) {
		t.Errorf("List: %v, %v; want %v", l, err, m.list())
	}
	for _, e := range m.list() {
		if n, err := dirfs.Find(f, e.Name); n != e.Node || err != nil {
			t.Errorf("Find(%q): %d, %v; want %d", e.Name, n, err, e.Node)
		}
	}
}

// call is one call of the face on a directory, of which only the error counts.
type call struct {
	what string
	do   func(f *inode.File) error
}

func adding(name string, node int) call {
	return call{"Add " + name, func(f *inode.File) error { return dirfs.Add(f, name, node) }}
}

func removing(name string) call {
	return call{"Remove " + name, func(f *inode.File) error { return dirfs.Remove(f, name) }}
}

func finding(t testing.TB, name string) call {
	return call{"Find " + name, func(f *inode.File) error {
		n, err := dirfs.Find(f, name)
		if err != nil && n != 0 {
			t.Errorf("Find(%q): %d beside %v", name, n, err)
		}
		return err
	}}
}

func listing(t testing.TB) call {
	return call{"List", func(f *inode.File) error {
		l, err := dirfs.List(f)
		if err != nil && l != nil {
			t.Errorf("List: %v beside %v", l, err)
		}
		return err
	}}
}

// refuses checks that a call errs just so, and leaves the file as it was.
func refuses(t testing.TB, f *inode.File, c call, want error) {
	t.Helper()
	was, blocks := raw(t, f), f.Blocks()
	if err := c.do(f); !errors.Is(err, want) {
		t.Errorf("%s: %v, want %v", c.what, err, want)
	}
	if !bytes.Equal(raw(t, f), was) || f.Blocks() != blocks {
		t.Errorf("%s changed what it refused", c.what)
	}
}
