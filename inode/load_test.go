package inode_test

import (
	"bytes"
	"errors"
	"math"
	"slices"
	"testing"

	"lychgate/api"
	"lychgate/inode"
)

// Where the numbers of a file's Bytes stand, four bytes each: its size, those
// of its first 8 parts, that of the indirect block, and that of the double one.
const (
	sizeAt   = 0
	directAt = 4
	singleAt = 36
	doubleAt = 40
	spareAt  = 44
)

func get32(b []byte) int {
	return int(b[0]) | int(b[1])<<8 | int(b[2])<<16 | int(b[3])<<24
}

func put32(b []byte, n int) {
	b[0], b[1], b[2], b[3] = byte(n), byte(n>>8), byte(n>>16), byte(n>>24)
}

// refuses checks that Load knows no file of these bytes.
func refuses(t *testing.T, s inode.Store, b []byte) {
	t.Helper()
	if f, err := inode.Load(s, b); f != nil || !errors.Is(err, api.ErrBroken) {
		t.Errorf("Load(%v): %v, %v", b, f, err)
	}
}

// sample makes a file that has blocks of all kinds, and holes.
func sample(t *testing.T, s *shelf) (*inode.File, *model) {
	f, m := inode.New(s), &model{}
	for _, at := range []int{0, 600, 5 * 512, 7*512 + 300, 9 * 512, 135*512 + 511, 138 * 512, 190*512 + 5} {
		write(t, f, at, text(700, at))
		m.write(at, text(700, at))
	}
	return f, m
}

func TestLoadMakesTheSame(t *testing.T) {
	for _, next := range []func(*shelf) int{least, ascending(), descending()} {
		s := newShelf(t, 300)
		s.next = next
		f, m := sample(t, s)
		for _, step := range []func(f *inode.File){
			func(*inode.File) {},
			func(f *inode.File) { write(t, f, 3000, text(2500, 1)); m.write(3000, text(2500, 1)) },
			func(f *inode.File) { truncate(t, f, 139*512); m.truncate(139 * 512) },
			func(f *inode.File) { write(t, f, 199*512, text(512, 2)); m.write(199*512, text(512, 2)) },
			func(f *inode.File) { truncate(t, f, 20*512+3); m.truncate(20*512 + 3) },
			func(f *inode.File) { truncate(t, f, most); m.truncate(most) },
			func(f *inode.File) { truncate(t, f, 0); m.truncate(0) },
		} {
			f = load(t, s, f.Bytes())
			step(f)
			holds(t, s, f, m)
		}
	}
}

// TestLoadOnAnotherStore: a file is its bytes and what its store holds.
func TestLoadOnAnotherStore(t *testing.T) {
	s := newShelf(t, 300)
	f, m := sample(t, s)
	o := newShelf(t, 300)
	for n, b := range s.held {
		o.held[n], o.right[n] = bytes.Clone(b), bytes.Clone(b)
	}
	g := load(t, o, f.Bytes())
	truncate(t, f, 0)
	holds(t, o, g, m)
}

func TestLoadLength(t *testing.T) {
	s := newShelf(t, 300)
	f, _ := sample(t, s)
	long := append(f.Bytes(), make([]byte, 1000)...)
	for n := range len(long) {
		if n != 64 {
			refuses(t, s, long[:n])
			refuses(t, s, make([]byte, n))
		}
	}
	refuses(t, s, nil)
	for c := 1; c < 256; c++ {
		refuses(t, s, bytes.Repeat([]byte{byte(c)}, 64))
	}
}

func TestLoadNumbersThatMayNotBe(t *testing.T) {
	s := newShelf(t, 300)
	f, m := sample(t, s)
	with := func(at, n int) []byte {
		b := f.Bytes()
		put32(b[at:], n)
		return b
	}
	load(t, s, with(sizeAt, most))
	for _, size := range []int{0, 1, 512, 7 * 512, 8 * 512, 136 * 512, 190 * 512, most + 1, 1 << 20, 1 << 31, math.MaxUint32} {
		refuses(t, s, with(sizeAt, size))
	}
	numbers := f.Bytes()
	for at := directAt; at < spareAt; at += 4 {
		for o := directAt; o < spareAt; o += 4 {
			if n := get32(numbers[o:]); o != at && n != 0 {
				refuses(t, s, with(at, n))
			}
		}
	}
	for at := spareAt; at < 64; at++ {
		b := f.Bytes()
		b[at] = 1
		refuses(t, s, b)
	}
	holds(t, s, f, m)
	// A file that ends where the block before the number does.
	for at := directAt; at < spareAt; at += 4 {
		b := make([]byte, 64)
		put32(b[sizeAt:], min((at-directAt)/4*512, (at-singleAt)/4*128*512+8*512))
		if at < singleAt {
			put32(b[sizeAt:], (at-directAt)/4*512)
		}
		put32(b[at:], 1)
		refuses(t, s, b)
	}
}

// TestLoadIndirectBlocks damages the blocks that name others.
func TestLoadIndirectBlocks(t *testing.T) {
	s := newShelf(t, 300)
	f, m := sample(t, s)
	single, double := get32(f.Bytes()[singleAt:]), get32(f.Bytes()[doubleAt:])
	inner := get32(s.held[double])
	own := get32(f.Bytes()[directAt:])
	for _, c := range []struct {
		block, entry, n int
		broken          bool
	}{
		{single, 0, own, true}, {single, 0, single, true}, {single, 0, double, true}, {single, 127, inner, true},
		{single, 0, 1000, false}, {single, 127, math.MaxUint32, false}, {single, 1, 0, false},
		{double, 1, 1000, true}, {double, 127, math.MaxUint32, true}, {double, 0, double, true}, {double, 0, single, true},
		{double, 0, 0, false}, {inner, 0, own, true}, {inner, 0, inner, true}, {inner, 0, 1000, false}, {inner, 54, 0, false},
		{inner, 56, 1000, true}, {inner, 63, 1000, true}, {inner, 64, 1000, true}, {inner, 127, 1, true},
	} {
		was := bytes.Clone(s.held[c.block])
		put32(s.held[c.block][4*c.entry:], c.n)
		g, err := inode.Load(s, f.Bytes())
		if c.broken && (g != nil || !errors.Is(err, api.ErrBroken)) || !c.broken && (g == nil || err != nil) {
			t.Errorf("%v: %v, %v", c, g, err)
		}
		copy(s.held[c.block], was)
	}
	holds(t, s, f, m)
}

// TestLoadDamaged: whatever is in the bytes, there is an answer, and a file that
// comes of them is one.
func TestLoadDamaged(t *testing.T) {
	s := newShelf(t, 300)
	f, _ := sample(t, s)
	s.lax = true
	for i := range 64 * 8 {
		b := f.Bytes()
		b[i/8] ^= 1 << (i % 8)
		tries(t, s, b)
		for n := range s.held {
			scribbled := slices.Clone(s.held[n])
			s.held[n][i] ^= 0x41
			tries(t, s, f.Bytes())
			copy(s.held[n], scribbled)
		}
	}
}

// tries loads what may be a file and asks it for all that it has.
func tries(t *testing.T, s *shelf, b []byte) {
	t.Helper()
	g, err := inode.Load(s, b)
	if err != nil {
		if g != nil || !errors.Is(err, api.ErrBroken) && !errors.Is(err, api.ErrRange) {
			t.Errorf("%v, %v", g, err)
		}
		return
	}
	if g.Size() > most || g.Blocks() > 203 || !bytes.Equal(g.Bytes(), b) {
		t.Errorf("Size %d, Blocks %d, Bytes %v of %v", g.Size(), g.Blocks(), g.Bytes(), b)
	}
	if all, err := g.Read(0, most); err == nil && len(all) != g.Size() || err != nil && !errors.Is(err, api.ErrRange) {
		t.Errorf("Read: %d bytes, %v", len(all), err)
	}
}

func FuzzLoad(f *testing.F) {
	s := newShelf(f, 300)
	file := inode.New(s)
	for _, at := range []int{0, 5000, 80000} {
		write(f, file, at, text(700, at))
	}
	s.lax = true
	f.Add(file.Bytes(), 3, []byte{1})
	f.Add(make([]byte, 64), 1, make([]byte, 512))
	f.Add([]byte{}, 1, []byte{})
	f.Fuzz(func(t *testing.T, b []byte, n int, held []byte) {
		if s.held[n] != nil {
			was := bytes.Clone(s.held[n])
			copy(s.held[n], held)
			defer func() { copy(s.held[n], was) }()
		}
		tries(t, s, b)
	})
}
