package fs_test

import (
	"bytes"
	"fmt"
	"math"
	"testing"

	"lychgate/api"
	"lychgate/fs"
)

const last = api.MaxBlocks * api.Sector // a file's last byte, and one more

// P7.2: the least free descriptor from 0 on; the ninth open file is one too
// many.
func TestOpen(t *testing.T) {
	f := world(t, 128)
	for want := 1; want < 8; want++ {
		path := "/x"
		if want%2 > 0 {
			path = "/d/f"
		}
		plays(t, f, expect{open(path), fmt.Sprint(want)})
	}
	plays(t, f,
		expect{open("/x"), "Open /x: no room"},
		expect{open("/o"), "Open /o: no room"},
		// Other errors are ahead.
		expect{open("x"), "Open x: no such name may be"},
		expect{open("/q"), "Open /q: not there"},
		expect{open("/x/q"), "Open /x/q: no directory"},
		expect{open("/"), "Open /: a directory"},
		expect{open("/d"), "Open /d: a directory"},
		expect{closing(5), "OK"},
		expect{closing(5), "out of range"},
		expect{closing(2), "OK"},
		expect{open("/o"), "2"},
		expect{open("/o"), "5"},
		expect{open("/o"), "Open /o: no room"},
		expect{closing(0), "OK"},
		expect{open("/o"), "0"},
	)
}

// P7.2: all descriptors of a file see what was written by any.
func TestSameFile(t *testing.T) {
	f := world(t, 128)
	plays(t, f,
		expect{open("/o"), "1"},
		expect{write(0, 2, []byte("abc")), "OK"},
		expect{read(1, 0, 9), "[0 0 97 98 99]"},
		expect{truncate(1, 3), "OK"},
		expect{size(0), "3"},
		expect{closing(0), "OK"},
		expect{read(1, 1, 1), "[0]"},
		expect{read(0, 1, 1), "out of range"},
		expect{open("/x"), "0"},
		expect{size(0), "0"},
		expect{size(1), "3"},
		expect{truncate(1, 5), "OK"},
		expect{read(1, 0, 9), "[0 0 97 0 0]"},
	)
}

// P7.2: descriptors that are not open, and numbers below 0.
func TestFileRanges(t *testing.T) {
	f := world(t, 128)
	well(t, f, write(0, 0, []byte("text")))
	for _, fd := range []int{-1, 1, 7, 8, 9, 255, math.MaxInt, math.MinInt} {
		for _, s := range []step{
			closing(fd), size(fd), read(fd, 0, 1), read(fd, -1, -1), read(fd, 0, 0), write(fd, 0, []byte("a")), write(fd, 0, nil),
			write(fd, 0, filled(1, 4097)), write(fd, -1, filled(1, 4097)), write(fd, last, []byte("a")), truncate(fd, 0), truncate(fd, -1), truncate(fd, last+1),
		} {
			refuses(t, f, expect{s, "out of range"})
		}
	}
	for _, n := range []int{-1, -2, -513, math.MinInt} {
		for _, s := range []step{
			read(0, n, 1), read(0, n, 0), read(0, 0, n), read(0, n, n), read(0, last, n), read(0, n, math.MaxInt),
			write(0, n, nil), write(0, n, []byte("a")), write(0, n, filled(1, 4097)), truncate(0, n),
		} {
			refuses(t, f, expect{s, "out of range"})
		}
	}
}

// P7.2: at most 4,096 bytes at once, and 200 blocks in all.
func TestBig(t *testing.T) {
	f := world(t, 300)
	refuses(t, f,
		expect{write(0, 0, filled(1, 4097)), "too big"},
		expect{write(0, last, filled(1, 4097)), "too big"},
		expect{write(0, 0, filled(1, 1<<20)), "too big"},
		expect{write(0, last, []byte("a")), "too big"},
		expect{write(0, last-4095, filled(1, 4096)), "too big"},
		expect{write(0, math.MaxInt, []byte("a")), "too big"},
		expect{write(0, math.MaxInt-4095, filled(1, 4096)), "too big"},
		expect{truncate(0, last+1), "too big"},
		expect{truncate(0, math.MaxInt), "too big"},
		expect{write(0, last, nil), "OK"},
		expect{write(0, math.MaxInt, []byte{}), "OK"},
	)
	plays(t, f,
		expect{write(0, 0, filled(1, 4096)), "OK"},
		expect{size(0), "4096"},
		expect{write(0, last-4096, filled(2, 4096)), "OK"},
		expect{size(0), "102400"},
		expect{read(0, 0, 4096), fmt.Sprint(filled(1, 4096))},
		expect{read(0, last-4096, math.MaxInt), fmt.Sprint(filled(2, 4096))},
		expect{read(0, 4096, 3), "[0 0 0]"},
		expect{free(), "226 25"},
		expect{truncate(0, last), "OK"},
		expect{truncate(0, 0), "OK"},
		expect{free(), "244 25"},
		expect{truncate(0, last), "OK"},
		expect{free(), "244 25"},
		expect{read(0, 0, last), fmt.Sprint(make([]byte, last))},
	)
}

// P7.2: what Read answers at the end of a file and beyond.
func TestRead(t *testing.T) {
	f := world(t, 128)
	b := filled(5, 1300)
	well(t, f, write(0, 0, b))
	for _, at := range []int{0, 1, 511, 512, 513, 1299, 1300, 1301, last, math.MaxInt} {
		for _, n := range []int{0, 1, 2, 511, 512, 788, 1300, 1301, math.MaxInt} {
			rest := b[min(at, len(b)):]
			plays(t, f, expect{read(0, at, n), fmt.Sprint(rest[:min(n, len(rest))])})
		}
	}
}

// P7.2: a file of all blocks that may be takes those that name others, too.
func TestWholeFile(t *testing.T) {
	_, f := made(t, 54+1+203+1)
	well(t, f, create("/x"))
	fd := opened(t, f, "/x")
	for at := 0; at < last; at += 4096 {
		well(t, f, write(fd, at, filled(at, 4096)))
	}
	plays(t, f, expect{free(), "1 29"})
	for at := 0; at < last; at += 4096 {
		plays(t, f, expect{read(fd, at, 4096), fmt.Sprint(filled(at, 4096))})
	}
	plays(t, f,
		expect{truncate(fd, 136*512), "OK"},
		expect{free(), "67 29"},
		expect{truncate(fd, 8*512), "OK"},
		expect{free(), "196 29"},
		expect{truncate(fd, 1), "OK"},
		expect{free(), "203 29"},
		expect{truncate(fd, 0), "OK"},
		expect{free(), "204 29"},
	)
}

// P7.2: the last block, and one more: a write has all blocks that it asks for,
// or changes nothing.
func TestFullWrites(t *testing.T) {
	for left := range 12 {
		_, f := made(t, 128)
		well(t, f, create("/x"), create("/y"))
		fd := opened(t, f, "/y")
		well(t, f, write(fd, 7*512, []byte("seven")))
		fill(t, f, "/z", left)
		for _, c := range []struct{ at, n, blocks int }{
			{0, 1, 1}, {512, 512, 1}, {511, 2, 2}, {1, 512, 2}, {0, 7 * 512, 7}, {0, 4096, 7}, {100, 4096, 9},
			{8 * 512, 1, 2}, {7 * 512, 1, 0}, {7 * 512, 513, 2}, {7*512 - 1, 4096, 1 + 8 - 1 + 1},
			{135 * 512, 512, 2}, {136 * 512, 512, 3}, {136*512 - 1, 2, 1 + 1 + 1 + 2}, {last - 1, 1, 3}, {last - 4096, 4096, 10}, {last - 4096 - 1, 4096, 11},
		} {
			if c.blocks > left {
				refuses(t, f, expect{write(fd, c.at, filled(1, c.n)), "no room"})
				continue
			}
			was := dump(f)
			well(t, f, write(fd, c.at, filled(1, c.n)))
			if blocks, _ := f.Free(); blocks != left-c.blocks {
				t.Errorf("%d bytes at %d: %d of %d blocks are free", c.n, c.at, blocks, left)
			}
			well(t, f, truncate(fd, 0), write(fd, 7*512, []byte("seven")))
			if is := dump(f); is != was {
				t.Errorf("%d bytes at %d: %s isn't %s", c.n, c.at, is, was)
			}
		}
		// What asks for no block has room always; what may not be is no matter of room.
		refuses(t, f, expect{write(fd, last-1, []byte("ab")), "too big"}, expect{truncate(fd, last+1), "too big"}, expect{write(fd, last, nil), "OK"})
		plays(t, f, expect{truncate(fd, last), "OK"}, expect{free(), fmt.Sprint(left, " 27")}, expect{size(fd), fmt.Sprint(last)})
	}
}

// P0.3: nothing that goes in or comes out is shared.
func TestNothingShared(t *testing.T) {
	f := world(t, 128)
	b := []byte("text")
	if err := f.Write(0, 0, b[:2]); err != nil {
		t.Fatal(err)
	}
	copy(b, "else")
	for range 2 {
		got, err := f.Read(0, 0, 2)
		if string(got) != "te" || err != nil {
			t.Errorf("%q, %v", got, err)
		}
		got = got[:cap(got)]
		for i := range got {
			got[i] = 1
		}
		l, err := f.List("/")
		if fmt.Sprint(l) != "[{d 2} {o 6} {x 5}]" || err != nil {
			t.Errorf("%v, %v", l, err)
		}
		l = l[:cap(l)]
		clear(l)
	}
}

// P0.5: two file systems know nothing of one another.
func TestTwo(t *testing.T) {
	f, g := world(t, 128), world(t, 128)
	was := dump(g)
	well(t, f, write(0, 0, filled(1, 4096)), create("/new"), unlink("/x"), closing(0), syncing())
	if is := dump(g); is != was {
		t.Errorf("%s isn't %s", is, was)
	}
}

// P7.1, P7.2: descriptors are not kept on the disk.
func TestOpenIsNotKept(t *testing.T) {
	d, f := made(t, 128)
	well(t, f, create("/x"))
	opened(t, f, "/x")
	well(t, f, write(0, 0, []byte("a")), syncing())
	g := mounted(t, d.Crash(nil))
	plays(t, g, expect{size(0), "out of range"}, expect{closing(0), "out of range"}, expect{open("/x"), "0"}, expect{read(0, 0, 2), "[97]"})
}

// P7.2: reads and looks change nothing, whatever they are asked.
func TestLooksChangeNothing(t *testing.T) {
	d, f := made(t, 128)
	well(t, f, mkdir("/d"), create("/x"))
	opened(t, f, "/x")
	well(t, f, write(0, 0, filled(1, 600)), syncing())
	n := d.Writes()
	was := dump(f)
	for _, s := range []step{read(0, 0, 700), size(0), list("/"), list("/x"), free(), open("/x"), closing(1), open("/d"), read(3, 0, 1)} {
		s.do(f)
	}
	well(t, f, syncing())
	if is := dump(f); is != was || d.Writes() != n {
		t.Errorf("%s isn't %s, or the disk was written", is, was)
	}
}

// P7.2: what doc/05 says of files holds for those of a file system: pieces laid
// over one another in any order.
func TestPieces(t *testing.T) {
	f := world(t, 200)
	want := make([]byte, 20000)
	for k := range 60 {
		at, n := k*k*37%16000, 1+k*k*k*11%4000
		b := filled(k, n)
		copy(want[at:], b)
		well(t, f, write(0, at, b))
	}
	n, err := f.Size(0)
	got, err2 := f.Read(0, 0, n)
	if err != nil || err2 != nil || !bytes.Equal(got, want[:n]) {
		t.Errorf("%v, %v", err, err2)
	}
}

var _ face = (*fs.FS)(nil)
