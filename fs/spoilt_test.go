package fs_test

import (
	"errors"
	"fmt"
	"math"
	"slices"
	"testing"

	"lychgate/api"
	"lychgate/blockdev"
	"lychgate/dirfs"
	"lychgate/fs"
	"lychgate/inode"
)

// Where the system lies on a disk: a mark of eight bytes and a byte for each
// node's kind; the map of what is taken; 64 bytes for each node.
const (
	headSector = 48
	mapSector  = 49
	nodeSector = 50
)

// raw is a disk as a store of files, past the file system.
type raw struct {
	d    *blockdev.Disk
	give int // the next new block
}

func (r *raw) Get(n int) ([]byte, error) { return r.d.Read(n) }
func (r *raw) Put(n int, b []byte) error { return r.d.Write(n, b) }
func (r *raw) Take() (int, error)        { r.give++; return r.give - 1, nil }
func (r *raw) Free(int) error            { return nil }

// poke sets bytes of a sector.
func poke(t *testing.T, d *blockdev.Disk, sector, at int, bytes ...byte) {
	t.Helper()
	b, err := d.Read(sector)
	if err == nil {
		copy(b[at:], bytes)
		err = d.Write(sector, b)
	}
	if err != nil {
		t.Fatal(err)
	}
}

// record tells where node i's bytes are.
func record(i int) (sector, at int) {
	return nodeSector + i/8, i % 8 * 64
}

func fileOf(t *testing.T, d *blockdev.Disk, i int) *inode.File {
	t.Helper()
	sector, at := record(i)
	b, err := d.Read(sector)
	if err != nil {
		t.Fatal(err)
	}
	f, err := inode.Load(&raw{d: d, give: 120}, b[at:at+64])
	if err != nil {
		t.Fatal(err)
	}
	return f
}

// edit changes node i's file past the file system. That a block was taken is
// told to the map, too.
func edit(t *testing.T, d *blockdev.Disk, i int, change func(f *inode.File) error) {
	t.Helper()
	f := fileOf(t, d, i)
	was := f.Blocks()
	if err := change(f); err != nil {
		t.Fatal(err)
	}
	for n := range f.Blocks() - was {
		take(t, d, 120+n, true)
	}
	sector, at := record(i)
	poke(t, d, sector, at, f.Bytes()...)
}

// take lets the map tell that a sector is taken, or isn't.
func take(t *testing.T, d *blockdev.Disk, i int, is bool) {
	t.Helper()
	b, err := d.Read(mapSector)
	if err != nil {
		t.Fatal(err)
	}
	c := b[i/8] &^ (1 << (i % 8))
	if is {
		c |= 1 << (i % 8)
	}
	poke(t, d, mapSector, i/8, c)
}

// whole makes a disk with directories /d (2), /d/e (3), files /d/f (4), which
// is empty, /x (5), which has indirect blocks, and /y (6), of 5 bytes.
func whole(t *testing.T) *blockdev.Disk {
	t.Helper()
	d, f := made(t, 128)
	well(t, f, mkdir("/d"), mkdir("/d/e"), create("/d/f"), create("/x"), create("/y"))
	plays(t, f, expect{open("/x"), "0"}, expect{open("/y"), "1"})
	well(t, f, write(0, 0, filled(1, 4096)), write(0, 4096, filled(2, 1000)), write(0, 136*512, filled(3, 10)), write(1, 0, []byte("hello")), syncing())
	return d
}

func adds(name string, node int) func(f *inode.File) error {
	return func(f *inode.File) error { return dirfs.Add(f, name, node) }
}

func writes(at int, b ...byte) func(f *inode.File) error {
	return func(f *inode.File) error { return f.Write(at, b) }
}

// P7.1: one thing is as it can't be, and there is no file system.
func TestSpoilt(t *testing.T) {
	s2, at2 := record(2)
	s4, at4 := record(4)
	s5, at5 := record(5)
	s6, at6 := record(6)
	s7, at7 := record(7)
	for what, spoil := range map[string]func(d *blockdev.Disk){
		"another mark":              func(d *blockdev.Disk) { poke(t, d, headSector, 0, 'L') },
		"bytes behind the kinds":    func(d *blockdev.Disk) { poke(t, d, headSector, 40, 1) },
		"the head's last byte":      func(d *blockdev.Disk) { poke(t, d, headSector, 511, 1) },
		"a kind that is none":       func(d *blockdev.Disk) { poke(t, d, headSector, 8+4, 3) },
		"node 0 is a file":          func(d *blockdev.Disk) { poke(t, d, headSector, 8, 1) },
		"node 0 has bytes":          func(d *blockdev.Disk) { poke(t, d, nodeSector, 0, 1) },
		"a free node has bytes":     func(d *blockdev.Disk) { poke(t, d, s7, at7+63, 1) },
		"the root is a file":        func(d *blockdev.Disk) { poke(t, d, headSector, 8+1, 1) },
		"no root":                   func(d *blockdev.Disk) { poke(t, d, headSector, 8+1, 0) },
		"a directory is a file":     func(d *blockdev.Disk) { poke(t, d, headSector, 8+2, 1) },
		"a file is a directory":     func(d *blockdev.Disk) { poke(t, d, headSector, 8+6, 2) },
		"a node without a name":     func(d *blockdev.Disk) { poke(t, d, headSector, 8+7, 1) },
		"a directory without one":   func(d *blockdev.Disk) { poke(t, d, headSector, 8+7, 2) },
		"a name of a free node":     func(d *blockdev.Disk) { poke(t, d, headSector, 8+4, 0) },
		"another name of it":        func(d *blockdev.Disk) { edit(t, d, 1, adds("z", 9)) },
		"two names of a file":       func(d *blockdev.Disk) { edit(t, d, 1, adds("z", 5)) },
		"two names of a directory":  func(d *blockdev.Disk) { edit(t, d, 1, adds("z", 3)) },
		"a name of the root":        func(d *blockdev.Disk) { edit(t, d, 3, adds("z", 1)) },
		"a directory in itself":     func(d *blockdev.Disk) { edit(t, d, 3, adds("z", 3)) },
		"directories in a ring":     func(d *blockdev.Disk) { ring(t, d) },
		"a name twice":              func(d *blockdev.Disk) { twice(t, d) },
		"a slot that is none":       func(d *blockdev.Disk) { edit(t, d, 2, writes(32, 'A')) },
		"a directory's size":        func(d *blockdev.Disk) { poke(t, d, s2, at2, 65) },
		"a node's unused byte":      func(d *blockdev.Disk) { poke(t, d, s4, at4+63, 1) },
		"a size that may not be":    func(d *blockdev.Disk) { poke(t, d, s4, at4, 1, 144, 1) },
		"a huge size":               func(d *blockdev.Disk) { poke(t, d, s4, at4, 255, 255, 255, 255) },
		"a block beyond the size":   func(d *blockdev.Disk) { poke(t, d, s6, at6, 0, 0) },
		"a log's block, not free":   func(d *blockdev.Disk) { poke(t, d, s6, at6+4, 1) },
		"a block of the log":        func(d *blockdev.Disk) { swap(t, d, s6, at6+4, 1) },
		"a block of the system":     func(d *blockdev.Disk) { swap(t, d, s6, at6+4, mapSector) },
		"a system's, all zeros":     func(d *blockdev.Disk) { swap(t, d, s6, at6+4, 53) },
		"a log's, all zeros":        func(d *blockdev.Disk) { swap(t, d, s6, at6+4, 40) },
		"all of two files":          func(d *blockdev.Disk) { poke(t, d, s4, at4, fileOf(t, d, 6).Bytes()...) },
		"a block beyond the disk":   func(d *blockdev.Disk) { swap(t, d, s6, at6+4, 128) },
		"a block beyond any":        func(d *blockdev.Disk) { swap(t, d, s6, at6+4, 255, 255, 255, 255) },
		"a block of two files":      func(d *blockdev.Disk) { copyBlock(t, d, s5, at5+8, s6, at6+4) },
		"a block twice in one":      func(d *blockdev.Disk) { copyBlock(t, d, s5, at5+8, s5, at5+4) },
		"an indirect block of junk": func(d *blockdev.Disk) { copyBlock(t, d, s5, at5+4, s5, at5+36) },
		"zeros for an indirect one": func(d *blockdev.Disk) { swap(t, d, s5, at5+36, 0) },
		"bytes behind a file's end": func(d *blockdev.Disk) { poke(t, d, blockOf(t, d, s6, at6+4), 5, 1) },
		"bytes at its block's end":  func(d *blockdev.Disk) { poke(t, d, blockOf(t, d, s6, at6+4), 511, 1) },
		"a lost block":              func(d *blockdev.Disk) { take(t, d, 127, true) },
		"a file's block is free":    func(d *blockdev.Disk) { take(t, d, blockOf(t, d, s6, at6+4), false) },
		"an indirect block is free": func(d *blockdev.Disk) { take(t, d, blockOf(t, d, s5, at5+36), false) },
		"the log's first is free":   func(d *blockdev.Disk) { take(t, d, 0, false) },
		"the system's last is free": func(d *blockdev.Disk) { take(t, d, 53, false) },
		"a sector that isn't":       func(d *blockdev.Disk) { take(t, d, 128, false) },
		"nor is this":               func(d *blockdev.Disk) { take(t, d, 4095, false) },
		"all is free":               func(d *blockdev.Disk) { poke(t, d, mapSector, 0, make([]byte, 512)...) },
	} {
		d := whole(t)
		spoil(d)
		noFS(t, what, d, api.ErrBroken)
	}
	for name, d := range map[string]*blockdev.Disk{"nothing": whole(t), "another free slot": spare(t)} {
		works(t, name, d)
	}
}

// ring takes /d from the root and names it in /d/e.
func ring(t *testing.T, d *blockdev.Disk) {
	edit(t, d, 1, func(f *inode.File) error { return dirfs.Remove(f, "d") })
	edit(t, d, 3, adds("d", 2))
}

// twice gives a new file the name of another one.
func twice(t *testing.T, d *blockdev.Disk) {
	edit(t, d, 2, adds("g", 7))
	poke(t, d, headSector, 8+7, 1)
	edit(t, d, 2, writes(64, 'e'))
}

// spare makes a directory longer by a slot that is free, as it may be.
func spare(t *testing.T) *blockdev.Disk {
	d := whole(t)
	edit(t, d, 2, func(f *inode.File) error { return f.Truncate(96) })
	return d
}

// blockOf answers the number of a block that stands somewhere.
func blockOf(t *testing.T, d *blockdev.Disk, sector, at int) int {
	t.Helper()
	b, err := d.Read(sector)
	if err != nil || b[at] < 54 {
		t.Fatalf("no block: %v, %v", b[at], err)
	}
	return int(b[at])
}

// swap lets another number stand where a block's does. The map tells that the
// block is free, so that it isn't the map by which it shows.
func swap(t *testing.T, d *blockdev.Disk, sector, at int, number ...byte) {
	t.Helper()
	take(t, d, blockOf(t, d, sector, at), false)
	poke(t, d, sector, at, number...)
}

func copyBlock(t *testing.T, d *blockdev.Disk, sector, at, toSector, to int) {
	t.Helper()
	swap(t, d, toSector, to, byte(blockOf(t, d, sector, at)))
}

// P7.1: a file system is that of a disk of just as many sectors.
func TestAnotherDisk(t *testing.T) {
	d := whole(t)
	for _, n := range []int{128, 129, 136, 4096} {
		e := blockdev.New(n)
		for i := range 128 {
			b, _ := d.Read(i)
			if err := e.Write(i, b); err != nil {
				t.Fatal(err)
			}
		}
		if n == 128 {
			works(t, "a copy", e)
		} else {
			noFS(t, fmt.Sprint(n, " sectors"), e, api.ErrBroken)
		}
	}
}

// works checks that a disk holds nothing that calls stumble over.
func works(t *testing.T, what string, d *blockdev.Disk) {
	t.Helper()
	f := mounted(t, d)
	l := []step{
		list("/"), list("/d"), open("/x"), open("/d/f"), open("/y"), read(0, 0, math.MaxInt), write(0, 20000, filled(1, 4096)), truncate(1, 1000),
		read(1, 0, 1000), write(2, 512, filled(2, 4096)), truncate(0, 3), closing(0), closing(1), unlink("/x"), rename("/d/f", "/y"), rename("/d/f", "/x"),
		rename("/d/e", "/e"), mkdir("/d/g"), create("/d/h"), unlink("/e"), unlink("/d/g"), unlink("/d/h"), unlink("/d"), create("/last"), syncing(),
	}
	for _, s := range l {
		if got := s.do(f); errorsIn(got) {
			t.Errorf("%s: %s: %s", what, s.what, got)
		}
	}
	if is, was := dump(mounted(t, d.Crash(nil))), dump(f); is != was {
		t.Errorf("%s: %s isn't %s", what, is, was)
	}
}

// errorsIn tells whether an answer is one that no file system gives.
func errorsIn(answer string) bool {
	return slices.ContainsFunc([]string{"not what it should be", "none of api's errors"}, func(s string) bool {
		return len(answer) >= len(s) && answer[len(answer)-len(s):] == s
	})
}

// P0.1, P7.1: each byte that the file system goes by, changed: there is none,
// or one in which all goes on.
func TestEachByteSpoilt(t *testing.T) {
	t.Parallel()
	d := whole(t)
	left, _ := mounted(t, d.Crash(nil)).Free()
	for sector := headSector; sector < 128-left; sector++ {
		b, _ := d.Read(sector)
		for at, c := range b {
			for _, x := range []byte{1, 254} {
				if sector < 54 || at%16 == sector%16 {
					spoiltByte(t, d, sector, at, c^x)
				}
			}
		}
	}
}

func spoiltByte(t *testing.T, d *blockdev.Disk, sector, at int, c byte) {
	t.Helper()
	e := d.Crash(nil)
	poke(t, e, sector, at, c)
	_, err := fs.Mount(e)
	if err == nil {
		works(t, fmt.Sprintf("byte %d of sector %d", at, sector), e)
	}
	if sector < nodeSector && err == nil || err != nil && !errors.Is(err, api.ErrBroken) {
		t.Errorf("byte %d of sector %d: %v", at, sector, err)
	}
}

// P0.1, P7.1: whole sectors of the system are lost, or others'.
func TestEachSectorSpoilt(t *testing.T) {
	d := whole(t)
	for i := headSector; i < 54; i++ {
		for j := range 128 {
			b, _ := d.Read(j)
			was, _ := d.Read(i)
			e := d.Crash(nil)
			poke(t, e, i, 0, b...)
			if slices.Equal(b, was) {
				works(t, fmt.Sprint("sector ", i), e)
			} else {
				noFS(t, fmt.Sprintf("sector %d as %d", i, j), e, api.ErrBroken)
			}
		}
	}
}

// P0.1: junk on a disk, behind a mark or not, is no trouble.
func FuzzMount(f *testing.F) {
	f.Add([]byte("lychgate"), 48, 8)
	f.Add([]byte{0, 2, 1}, 48, 8)
	f.Add([]byte{32, 0, 0, 0, 54}, 50, 64)
	f.Fuzz(func(t *testing.T, b []byte, sector, at int) {
		d := whole(t)
		sector, at = 48+(sector&math.MaxInt)%80, (at&math.MaxInt)%512
		for len(b) > 0 && sector < 128 {
			n := min(len(b), 512-at)
			poke(t, d, sector, at, b[:n]...)
			b, sector, at = b[n:], sector+1, 0
		}
		if g, err := fs.Mount(d); err == nil {
			works(t, "junk", d)
		} else if g != nil || !errors.Is(err, api.ErrBroken) {
			t.Errorf("mounted %v, %v", g != nil, err)
		}
	})
}
