package dirfs_test

import (
	"bytes"
	"errors"
	"slices"
	"testing"

	"lychgate/api"
	"lychgate/dirfs"
	"lychgate/inode"
)

// broken checks that all calls find f to be no directory.
func broken(t testing.TB, f *inode.File) {
	t.Helper()
	for _, name := range []string{"a", "b", "new"} {
		refuses(t, f, finding(t, name), api.ErrBroken)
		refuses(t, f, removing(name), api.ErrBroken)
		refuses(t, f, adding(name, 31), api.ErrBroken)
	}
	refuses(t, f, listing(t), api.ErrBroken)
	// Names and numbers that may not be are seen without a look at the file.
	refuses(t, f, finding(t, "A"), api.ErrName)
	refuses(t, f, removing(".."), api.ErrName)
	refuses(t, f, adding("", 0), api.ErrName)
	refuses(t, f, adding("a", 32), api.ErrRange)
}

// P6.1: the size must be a multiple of 32.
func TestBrokenSize(t *testing.T) {
	whole := model(append(many(17), named("a")...)).laid(t)
	for n := 0; n <= len(whole); n++ {
		f := inode.New(newRack(9))
		fill(t, f, whole[:n])
		if n%32 != 0 {
			broken(t, f)
		} else if l, err := dirfs.List(f); len(l) != n/32 || err != nil {
			t.Errorf("%d bytes: %v, %v", n, l, err)
		}
	}
	for _, n := range []int{1, 31, 33, 512 + 16, 102400 - 1, 102400 - 31} {
		f := inode.New(newRack(9))
		if err := f.Truncate(n); err != nil {
			t.Fatal(err)
		}
		broken(t, f)
	}
}

// P6.1: a slot that is none, wherever it stands, ahead of what is sought or
// behind it.
func TestBrokenSlot(t *testing.T) {
	m := model(append(many(15), named("a", "b", "c")...))
	m[3] = free
	for _, junk := range [][]byte{
		bytes.Repeat([]byte{255}, 32),
		bytes.Repeat([]byte{1}, 32),
		bytes.Repeat([]byte("a"), 32),
		bytes.Repeat([]byte(" "), 32),
		append(make([]byte, 31), 1),
		append([]byte{1}, make([]byte, 31)...),
		append([]byte("a"), make([]byte, 31)...),
		append(make([]byte, 31), 'a'),
	} {
		for i := range m {
			f := m.made(t)
			if err := f.Write(32*i, junk); err != nil {
				t.Fatal(err)
			}
			broken(t, f)
		}
	}
}

// lists checks that f is broken, or a directory as the calls themselves make
// it: names and numbers that may be, in the only bytes that tell them.
func lists(t *testing.T, f *inode.File) bool {
	l, err := dirfs.List(f)
	if err != nil {
		if !errors.Is(err, api.ErrBroken) || l != nil {
			t.Errorf("List: %v, %v", l, err)
		}
		return false
	}
	var m model
	for b := range slices.Chunk(raw(t, f), 32) {
		g := inode.New(newRack(1))
		fill(t, g, b)
		one, err := dirfs.List(g)
		if err != nil || len(one) > 1 {
			t.Fatalf("List of the slot % x: %v, %v", b, one, err)
		}
		m = append(m, append(one, free)[0])
	}
	if !bytes.Equal(m.laid(t), raw(t, f)) || !slices.EqualFunc(l, m.list(), func(a, b dirfs.Entry) bool { return a.Name == b.Name }) {
		t.Errorf("List: %v of the slots %v", l, m)
	}
	return true
}

// P6.1: each byte of a slot with each value is an entry that may be, or none.
func TestDamagedSlots(t *testing.T) {
	for _, e := range append(named("a", "bb", "cccccccccccccccccccccccc"), free, dirfs.Entry{Name: "...", Node: 31}) {
		was, good := slot(t, e), 0
		for i := range was {
			for c := range 256 {
				b := bytes.Clone(was)
				b[i] = byte(c)
				f := inode.New(newRack(1))
				fill(t, f, b)
				if lists(t, f) {
					good++
				}
			}
		}
		// A letter for another, a letter more, another number, or what was.
		if n := 32 + len(e.Name)*39 + 31 + 39; good > n {
			t.Errorf("%d slots beside %v are good", good, e)
		}
	}
}

func FuzzSlots(f *testing.F) {
	f.Add([]byte("a\x00\x00\x00\x00\x00\x00\x00\x00\x00\x00\x00\x00\x00\x00\x00\x00\x00\x00\x00\x00\x00\x00\x00\x05\x00\x00\x00\x00\x00\x00\x00"))
	f.Add(make([]byte, 64))
	f.Add([]byte("no slot"))
	f.Fuzz(func(t *testing.T, b []byte) {
		g := inode.New(newRack(10))
		if g.Write(0, b[:min(len(b), 4096)]) == nil {
			lists(t, g)
		}
	})
}

// P6.1: several slots may tell one name, as nothing says otherwise: the first
// of them counts.
func TestNameTwice(t *testing.T) {
	m := model{{Name: "b", Node: 1}, {Name: "a", Node: 2}, {Name: "a", Node: 1}, {Name: "b", Node: 3}}
	f := m.made(t)
	if l, err := dirfs.List(f); err != nil || !slices.Equal(l, []dirfs.Entry{m[1], m[2], m[0], m[3]}) {
		t.Errorf("List: %v, %v", l, err)
	}
	refuses(t, f, adding("a", 4), api.ErrExists)
	for _, want := range []int{2, 1} {
		if n, err := dirfs.Find(f, "a"); n != want || err != nil {
			t.Errorf("Find: %d, %v", n, err)
		}
		remove(t, f, "a")
	}
	m[1], m[2] = free, free
	if !bytes.Equal(raw(t, f), m.laid(t)) {
		t.Errorf("%q", raw(t, f))
	}
}
