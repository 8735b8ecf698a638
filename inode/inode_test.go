package inode_test

import (
	"bytes"
	"errors"
	"math"
	"slices"
	"testing"

	"lychgate/api"
	"lychgate/inode"
)

// most is how many bytes a file may have.
const most = 200 * 512

// edges are places at which something else names the blocks, and where one
// ends, and those beside them.
func edges() []int {
	var list []int
	for _, k := range []int{0, 1, 7, 8, 9, 135, 136, 137, 199, 200} {
		for _, d := range []int{-1, 0, 1} {
			if at := k*512 + d; at >= 0 && at <= most {
				list = append(list, at)
			}
		}
	}
	return list
}

func TestNew(t *testing.T) {
	s := newShelf(t, 0)
	f := inode.New(s)
	holds(t, s, f, &model{})
	if s.calls > 0 {
		t.Errorf("%d calls for an empty file", s.calls)
	}
	for _, at := range []int{0, 1, 512, most, math.MaxInt} {
		if b := read(t, f, at, 10); len(b) != 0 {
			t.Errorf("Read(%d) of nothing: %v", at, b)
		}
	}
}

func TestWriteAtEdges(t *testing.T) {
	for _, at := range edges() {
		for _, n := range []int{1, 2, 511, 512, 513, 1024, 1025, 4096, 5000} {
			s, m := newShelf(t, 300), &model{}
			f := inode.New(s)
			b := text(n, at)
			if at+n > most {
				if err := f.Write(at, b); !errors.Is(err, api.ErrBig) {
					t.Errorf("Write(%d, %d bytes): %v", at, n, err)
				}
				holds(t, s, f, m)
				continue
			}
			write(t, f, at, b)
			m.write(at, b)
			holds(t, s, f, m)
			if t.Failed() {
				t.Fatalf("behind Write(%d, %d bytes)", at, n)
			}
		}
	}
}

// TestWriteOver writes at all edges, and into each other, of one file.
func TestWriteOver(t *testing.T) {
	for _, next := range []func(*shelf) int{least, ascending(), descending()} {
		s, m := newShelf(t, 203), &model{}
		s.next = next
		f := inode.New(s)
		list := append(edges(), edges()...)
		for i, at := range append(list, 300, 3, 5*512+7, 60000) {
			b := text(min(1+i*37%1500, most-at), i)
			write(t, f, at, b)
			m.write(at, b)
			holds(t, s, f, m)
			if t.Failed() {
				t.Fatalf("behind Write(%d, %d bytes)", at, len(b))
			}
		}
	}
}

func TestWholeFile(t *testing.T) {
	for _, step := range []int{most, 4096, 512, 1000} {
		s, m := newShelf(t, 203), &model{}
		f := inode.New(s)
		all := text(most, step)
		for at := 0; at < most; at += step {
			write(t, f, at, all[at:min(most, at+step)])
		}
		m.write(0, all)
		holds(t, s, f, m)
		if f.Blocks() != 203 {
			t.Errorf("%d blocks", f.Blocks())
		}
		if err := f.Write(most, []byte{1}); !errors.Is(err, api.ErrBig) {
			t.Errorf("Write behind 200 blocks: %v", err)
		}
		write(t, f, 0, all)
		holds(t, s, f, m)
	}
}

func TestRead(t *testing.T) {
	s, m := newShelf(t, 300), &model{}
	f := inode.New(s)
	for _, at := range []int{3, 7 * 512, 20*512 + 100, 135*512 + 500, 137 * 512, 150*512 + 9} {
		write(t, f, at, text(300, at))
		m.write(at, text(300, at))
	}
	size := len(m.b)
	for _, at := range append(edges(), size-1, size, size+1, math.MaxInt-1, math.MaxInt) {
		for _, n := range []int{0, 1, 2, 511, 512, 513, 1500, size, size + 1, most, 1 << 60, math.MaxInt} {
			want := m.b[min(at, size):]
			want = want[:min(n, len(want))]
			if b := read(t, f, at, n); !bytes.Equal(b, want) {
				t.Errorf("Read(%d, %d): %d bytes, want %d, or other ones", at, n, len(b), len(want))
			}
		}
	}
	holds(t, s, f, m)
}

func TestReadWrong(t *testing.T) {
	s := newShelf(t, 300)
	f := inode.New(s)
	write(t, f, 0, text(700, 0))
	for _, p := range [][2]int{{-1, 0}, {-1, 5}, {0, -1}, {5, -1}, {-1, -1}, {math.MinInt, 1}, {1, math.MinInt}, {math.MinInt, math.MaxInt}, {math.MaxInt, -1}, {700, -1}, {-512, 512}} {
		if b, err := f.Read(p[0], p[1]); len(b) != 0 || !errors.Is(err, api.ErrRange) {
			t.Errorf("Read(%d, %d): %v, %v", p[0], p[1], b, err)
		}
	}
}

func TestWriteNothing(t *testing.T) {
	s, m := newShelf(t, 300), &model{}
	f := inode.New(s)
	for _, at := range []int{0, 1, 511, 512, 50, most, most + 1, 1 << 62, math.MaxInt} {
		for _, b := range [][]byte{nil, {}} {
			if err := f.Write(at, b); err != nil {
				t.Errorf("Write(%d, nothing): %v", at, err)
			}
			holds(t, s, f, m)
		}
	}
	for _, at := range []int{-1, -512, math.MinInt} {
		if err := f.Write(at, nil); !errors.Is(err, api.ErrRange) {
			t.Errorf("Write(%d, nothing): %v", at, err)
		}
	}
}

func TestWriteWrong(t *testing.T) {
	s, m := newShelf(t, 300), &model{}
	f := inode.New(s)
	write(t, f, 100, text(5, 0))
	m.write(100, text(5, 0))
	for _, at := range []int{-1, -5, -512, -most, math.MinInt, math.MinInt + 1} {
		for _, n := range []int{1, 512, most + 1} {
			if err := f.Write(at, text(n, 0)); !errors.Is(err, api.ErrRange) {
				t.Errorf("Write(%d, %d bytes): %v", at, n, err)
			}
		}
	}
	for _, p := range [][2]int{{0, most + 1}, {1, most}, {most - 1, 2}, {most, 1}, {most, 512}, {most - 512, 513}, {1 << 62, 1}, {math.MaxInt, 1}, {math.MaxInt - 1, 512}, {math.MaxInt, most + 1}} {
		if err := f.Write(p[0], text(p[1], 0)); !errors.Is(err, api.ErrBig) {
			t.Errorf("Write(%d, %d bytes): %v", p[0], p[1], err)
		}
	}
	holds(t, s, f, m)
}

func TestTruncateAtEdges(t *testing.T) {
	for _, from := range []int{most, 140*512 + 3, 136*512 + 1, 100*512 + 7, 8*512 + 1, 8 * 512, 700} {
		for _, n := range edges() {
			s, m := newShelf(t, 203), &model{}
			f := inode.New(s)
			write(t, f, 0, text(from, n))
			m.write(0, text(from, n))
			for _, n := range []int{n, most, n, n + 1, 0} {
				n = min(n, most)
				truncate(t, f, n)
				m.truncate(n)
				holds(t, s, f, m)
				if t.Failed() {
					t.Fatalf("behind Truncate(%d), at first of %d", n, from)
				}
			}
		}
	}
}

// TestTruncateHoles cuts files of which few parts were written, so that
// indirect blocks name none any more while the file still goes on there.
func TestTruncateHoles(t *testing.T) {
	for _, parts := range [][]int{{8}, {135}, {136}, {199}, {7, 8, 136}, {8, 20}, {9, 136, 140}, {0, 135, 199}, {136, 137, 199}} {
		for _, n := range []int{0, 1, 4096, 4097, 8*512 + 511, 10 * 512, 100 * 512, 136*512 - 1, 136 * 512, 136*512 + 1, 138*512 + 5, 198 * 512, 199 * 512, most} {
			s, m := newShelf(t, 203), &model{}
			f := inode.New(s)
			for _, k := range parts {
				write(t, f, k*512, text(512, k))
				m.write(k*512, text(512, k))
			}
			truncate(t, f, n)
			m.truncate(n)
			holds(t, s, f, m)
			if t.Failed() {
				t.Fatalf("behind Truncate(%d) of a file of parts %v", n, parts)
			}
		}
	}
}

// TestZerosBehindTheEnd: what was cut off shows never again.
func TestZerosBehindTheEnd(t *testing.T) {
	for _, grow := range []func(f *inode.File){
		func(f *inode.File) { truncate(t, f, 2000) },
		func(f *inode.File) { write(t, f, 1999, []byte{0}) },
		func(f *inode.File) { truncate(t, f, 1001); write(t, f, 1500, make([]byte, 500)) },
	} {
		for _, n := range []int{1, 7, 511, 512, 513, 1000} {
			s := newShelf(t, 300)
			f := inode.New(s)
			write(t, f, 0, text(2000, 0))
			truncate(t, f, n)
			grow(f)
			want := append(text(n, 0), make([]byte, 2000-n)...)
			if f.Size() != 2000 || !bytes.Equal(read(t, f, 0, 2000), want) {
				t.Errorf("behind Truncate(%d), %v", n, f.Size())
			}
		}
	}
}

func TestTruncateWrong(t *testing.T) {
	s, m := newShelf(t, 300), &model{}
	f := inode.New(s)
	write(t, f, 0, text(600, 0))
	m.write(0, text(600, 0))
	for _, n := range []int{-1, -512, -most, math.MinInt} {
		if err := f.Truncate(n); !errors.Is(err, api.ErrRange) {
			t.Errorf("Truncate(%d): %v", n, err)
		}
	}
	for _, n := range []int{most + 1, most + 512, 1 << 40, math.MaxInt} {
		if err := f.Truncate(n); !errors.Is(err, api.ErrBig) {
			t.Errorf("Truncate(%d): %v", n, err)
		}
	}
	holds(t, s, f, m)
	truncate(t, f, 600)
	holds(t, s, f, m)
}

// TestBlocks tells how many there are behind each of some writes of one byte.
func TestBlocks(t *testing.T) {
	s := newShelf(t, 300)
	f := inode.New(s)
	for _, c := range [][2]int{
		{0, 1}, {511, 1}, {512, 2}, {7*512 + 511, 3}, {8 * 512, 5}, {9 * 512, 6}, {135*512 + 511, 7},
		{136 * 512, 10}, {137 * 512, 11}, {199*512 + 511, 12}, {199 * 512, 12}, {8*512 + 1, 12},
	} {
		write(t, f, c[0], []byte{0})
		if f.Blocks() != c[1] || len(s.held) != c[1] {
			t.Errorf("behind a write at %d: %d blocks, %d taken, want %d", c[0], f.Blocks(), len(s.held), c[1])
		}
	}
	for _, c := range [][2]int{{199*512 + 1, 12}, {199 * 512, 11}, {136*512 + 1, 10}, {136 * 512, 7}, {9 * 512, 5}, {8 * 512, 3}, {512, 1}, {1, 1}, {0, 0}} {
		truncate(t, f, c[0])
		if f.Blocks() != c[1] || len(s.held) != c[1] {
			t.Errorf("behind Truncate(%d): %d blocks, %d taken, want %d", c[0], f.Blocks(), len(s.held), c[1])
		}
	}
	for _, k := range []int{8, 135, 136, 199} {
		s := newShelf(t, 300)
		f := inode.New(s)
		write(t, f, k*512, []byte{1})
		if want := 2 + k/136; f.Blocks() != want || len(s.held) != want {
			t.Errorf("a file of part %d alone: %d blocks, want %d", k, f.Blocks(), want)
		}
	}
}

func TestAnswersAreNewMemory(t *testing.T) {
	s, m := newShelf(t, 300), &model{}
	f := inode.New(s)
	write(t, f, 0, text(5000, 0))
	m.write(0, text(5000, 0))
	b, c := f.Bytes(), f.Bytes()
	scribble(b[:cap(b)])
	if bytes.Equal(b, c) || !bytes.Equal(c, f.Bytes()) {
		t.Error("Bytes share memory")
	}
	for _, p := range [][2]int{{0, 5000}, {0, 512}, {3, 10}, {512, 512}, {4000, 9000}} {
		b, c := read(t, f, p[0], p[1]), read(t, f, p[0], p[1])
		scribble(b[:cap(b)])
		if bytes.Equal(b, c) {
			t.Errorf("answers of Read(%d, %d) share memory", p[0], p[1])
		}
		holds(t, s, f, m)
	}
}

func TestArgumentsAreLeft(t *testing.T) {
	s, m := newShelf(t, 300), &model{}
	f := inode.New(s)
	room := text(6000, 0)
	given := room[:512]
	for _, at := range []int{0, 512, 100, 8 * 512} {
		write(t, f, at, given)
		m.write(at, given)
	}
	if !bytes.Equal(room, text(6000, 0)) {
		t.Error("Write changed what it was handed")
	}
	scribble(room)
	holds(t, s, f, m)
	own := append(f.Bytes(), 1, 2, 3)
	was := slices.Clone(own)
	g := load(t, s, own[:64])
	if !bytes.Equal(own, was) {
		t.Error("Load changed what it was handed")
	}
	scribble(own)
	looks(t, g, m)
}

// TestFilesAreApart lets two files and a loaded one change on one store.
func TestFilesAreApart(t *testing.T) {
	s := newShelf(t, 500)
	f, g, m, o := inode.New(s), inode.New(s), &model{}, &model{}
	for i, at := range []int{0, 4000, 70000, 512, 90000} {
		write(t, f, at, text(1000, i))
		m.write(at, text(1000, i))
		write(t, g, at+100, text(1500, i+99))
		o.write(at+100, text(1500, i+99))
	}
	f = load(t, s, f.Bytes())
	truncate(t, g, 3000)
	o.truncate(3000)
	write(t, f, 20000, text(3000, 5))
	m.write(20000, text(3000, 5))
	looks(t, f, m)
	looks(t, g, o)
	if len(s.held) != f.Blocks()+g.Blocks() {
		t.Errorf("%d blocks are taken", len(s.held))
	}
	truncate(t, f, 0)
	looks(t, g, o)
	truncate(t, g, 0)
	if len(s.held) != 0 {
		t.Errorf("%d blocks are left", len(s.held))
	}
}

func TestNil(t *testing.T) {
	var none *inode.File
	if inode.New(nil) == nil {
		t.Fatal("New(nil) is nil")
	}
	for k, f := range []*inode.File{none, inode.New(nil), {}} {
		for _, n := range []int{math.MinInt, -1, 0, 1, 512, most, most + 1, math.MaxInt} {
			if b, err := f.Read(n, 1); len(b) != 0 || !errors.Is(err, api.ErrRange) {
				t.Errorf("%d: Read(%d, 1): %v, %v", k, n, b, err)
			}
			if b, err := f.Read(0, n); len(b) != 0 || !errors.Is(err, api.ErrRange) {
				t.Errorf("%d: Read(0, %d): %v, %v", k, n, b, err)
			}
			for _, b := range [][]byte{nil, {1}, text(5000, 0)} {
				if err := f.Write(n, b); !errors.Is(err, api.ErrRange) {
					t.Errorf("%d: Write(%d, %d bytes): %v", k, n, len(b), err)
				}
			}
			if err := f.Truncate(n); !errors.Is(err, api.ErrRange) {
				t.Errorf("%d: Truncate(%d): %v", k, n, err)
			}
		}
		if f.Size() != 0 || f.Blocks() != 0 || len(f.Bytes()) != 0 {
			t.Errorf("%d: Size %d, Blocks %d, Bytes %v", k, f.Size(), f.Blocks(), f.Bytes())
		}
	}
	for _, b := range [][]byte{inode.New(newShelf(t, 1)).Bytes(), nil, make([]byte, 63)} {
		if f, err := inode.Load(nil, b); f != nil || !errors.Is(err, api.ErrRange) {
			t.Errorf("Load(nil, %v): %v, %v", b, f, err)
		}
	}
}
