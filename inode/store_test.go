package inode_test

import (
	"bytes"
	"errors"
	"maps"
	"math"
	"slices"
	"testing"

	"lychgate/api"
	"lychgate/inode"
)

// errBoom is an error that the project knows nothing of.
var errBoom = errors.New("boom")

// shelf is a store that watches how it is used. It hands out the very memory
// that it holds and holds the very memory that it is handed, so that whoever
// changes either is seen. It can be told to fail.
type shelf struct {
	t     testing.TB
	held  map[int][]byte
	right map[int][]byte // copies of what is held
	room  int
	next  func(s *shelf) int // the number of a new block

	calls   int
	failAt  int    // the call that fails; 0: none
	lasting bool   // and all behind it
	panics  bool   // it fails in another way
	only    string // the calls that may fail; "": all
	broke   string // what failed first
	lax     bool   // it may be asked for blocks that it doesn't have
}

func newShelf(t testing.TB, room int) *shelf {
	return &shelf{t: t, held: map[int][]byte{}, right: map[int][]byte{}, room: room, next: least}
}

// least is the least number that isn't taken.
func least(s *shelf) int {
	n := 1
	for s.held[n] != nil {
		n++
	}
	return n
}

// descending goes down from the greatest number that an indirect block can
// name, and never comes to one again.
func descending() func(*shelf) int {
	n := math.MaxUint32 + 1
	return func(*shelf) int { n--; return n }
}

// ascending never comes to a number again.
func ascending() func(*shelf) int {
	n := 0
	return func(*shelf) int { n++; return n }
}

// fail lets the n-th call from now on err, of those of one name ("": of all).
func (s *shelf) fail(n int, lasting bool, only string) {
	s.calls, s.failAt, s.lasting, s.only, s.broke = 0, n, lasting, only, ""
}

func (s *shelf) heal() { s.failAt = 0 }

func (s *shelf) fails(name string) bool {
	if s.only != "" && s.only != name {
		return false
	}
	s.calls++
	fails := s.failAt > 0 && (s.calls == s.failAt || s.lasting && s.calls > s.failAt)
	if fails && s.broke == "" {
		s.broke = name
	}
	if fails && s.panics {
		panic(name)
	}
	return fails
}

func (s *shelf) knows(name string, n int) bool {
	if s.held[n] == nil && !s.lax {
		s.t.Errorf("%s of block %d, which isn't taken", name, n)
	}
	return s.held[n] != nil
}

func (s *shelf) Get(n int) ([]byte, error) {
	if s.fails("Get") {
		return bytes.Repeat([]byte{0xcc}, api.Sector), errBoom
	}
	if !s.knows("Get", n) {
		return nil, api.ErrRange
	}
	return s.held[n], nil
}

func (s *shelf) Put(n int, b []byte) error {
	if len(b) != api.Sector {
		s.t.Errorf("Put of %d bytes", len(b))
	}
	if !s.knows("Put", n) {
		return api.ErrRange
	}
	s.watch()
	// Whoever still looks at what was held shall be surprised.
	scribble(s.held[n])
	s.held[n], s.right[n] = b, bytes.Clone(b)
	if s.fails("Put") {
		b[0]++
		s.right[n][0]++
		return errBoom
	}
	return nil
}

func (s *shelf) Take() (int, error) {
	if s.fails("Take") {
		return 77, errBoom
	}
	if len(s.held) >= s.room {
		return 0, api.ErrFull
	}
	n := s.next(s)
	s.held[n] = make([]byte, api.Sector)
	scribble(s.held[n])
	s.right[n] = bytes.Clone(s.held[n])
	return n, nil
}

func (s *shelf) Free(n int) error {
	if s.fails("Free") {
		return errBoom
	}
	if !s.knows("Free", n) {
		return api.ErrBroken
	}
	s.watch()
	scribble(s.held[n])
	delete(s.held, n)
	delete(s.right, n)
	return nil
}

// watch checks that nobody wrote into what is held.
func (s *shelf) watch() {
	if !maps.EqualFunc(s.held, s.right, bytes.Equal) {
		s.t.Error("the store's memory was written into")
	}
}

func scribble(b []byte) {
	for i := range b {
		b[i] = 0xee
	}
}

// model is a file as the chapter tells it, without blocks below it.
type model struct {
	b   []byte
	has [api.MaxBlocks]bool
}

func (m *model) write(at int, b []byte) {
	if len(b) == 0 {
		return
	}
	m.b = append(m.b, make([]byte, max(0, at+len(b)-len(m.b)))...)
	copy(m.b[at:], b)
	for i := range b {
		m.has[(at+i)/512] = true
	}
}

func (m *model) truncate(n int) {
	m.b = append(slices.Clone(m.b[:min(n, len(m.b))]), make([]byte, max(0, n-len(m.b)))...)
	for k := (n + 511) / 512; k < len(m.has); k++ {
		m.has[k] = false
	}
}

// blocks counts those of parts, and those that name them.
func (m *model) blocks() int {
	count := 0
	for k, has := range m.has {
		if has {
			count++
		}
		if has && k >= 8 && k < 136 && !slices.Contains(m.has[8:k], true) {
			count++
		}
		if has && k >= 136 && !slices.Contains(m.has[136:k], true) {
			count += 2
		}
	}
	return count
}

func read(t testing.TB, f *inode.File, at, n int) []byte {
	t.Helper()
	b, err := f.Read(at, n)
	if err != nil {
		t.Fatalf("Read(%d, %d): %v", at, n, err)
	}
	return b
}

func write(t testing.TB, f *inode.File, at int, b []byte) {
	t.Helper()
	if err := f.Write(at, b); err != nil {
		t.Fatalf("Write(%d, %d bytes): %v", at, len(b), err)
	}
}

func truncate(t testing.TB, f *inode.File, n int) {
	t.Helper()
	if err := f.Truncate(n); err != nil {
		t.Fatalf("Truncate(%d): %v", n, err)
	}
}

func load(t testing.TB, s inode.Store, b []byte) *inode.File {
	t.Helper()
	f, err := inode.Load(s, b)
	if err != nil || f == nil {
		t.Fatalf("Load: %v, %v", f, err)
	}
	return f
}

// looks checks all that a file tells, but for how it stands on its store.
func looks(t testing.TB, f *inode.File, m *model) {
	t.Helper()
	if f.Size() != len(m.b) || f.Blocks() != m.blocks() || len(f.Bytes()) != 64 {
		t.Errorf("Size %d, Blocks %d, %d Bytes; want %d, %d, 64", f.Size(), f.Blocks(), len(f.Bytes()), len(m.b), m.blocks())
	}
	if b := read(t, f, 0, math.MaxInt); !bytes.Equal(b, m.b) {
		t.Errorf("other bytes than were written: %d, want %d", len(b), len(m.b))
	}
}

// holds checks a file that is alone on its store, and that Load makes the same.
func holds(t testing.TB, s *shelf, f *inode.File, m *model) {
	t.Helper()
	s.watch()
	if len(s.held) != m.blocks() {
		t.Errorf("%d blocks are taken, want %d", len(s.held), m.blocks())
	}
	looks(t, f, m)
	g := load(t, s, f.Bytes())
	if !bytes.Equal(g.Bytes(), f.Bytes()) {
		t.Error("a loaded file has other Bytes")
	}
	looks(t, g, m)
}

// text makes n bytes none of which is 0.
func text(n, from int) []byte {
	b := make([]byte, n)
	for i := range b {
		b[i] = byte((i+from)%251) + 1
	}
	return b
}
