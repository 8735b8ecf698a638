package fs_test

import (
	"errors"
	"fmt"
	"math"
	"strings"
	"testing"

	"lychgate/api"
	"lychgate/dirfs"
	"lychgate/fs"
)

// world makes directories /d and /d/e, and files /d/f, /x and /o, of which /o
// is open as 0.
func world(t *testing.T, sectors int) *fs.FS {
	t.Helper()
	_, f := made(t, sectors)
	well(t, f, mkdir("/d"), create("/d/f"), mkdir("/d/e"), create("/x"), create("/o"))
	if fd := opened(t, f, "/o"); fd != 0 {
		t.Fatalf("open /o: %d", fd)
	}
	return f
}

// named makes so many names.
func named(n int) []string {
	var l []string
	for i := range n {
		l = append(l, fmt.Sprint("/n", i))
	}
	return l
}

// fill makes files, the last of which takes so many blocks that left are free.
func fill(t *testing.T, f *fs.FS, path string, left int) {
	t.Helper()
	well(t, f, create(path))
	fd := opened(t, f, path)
	for at := 0; ; at += api.Sector {
		if blocks, _ := f.Free(); blocks == left {
			break
		}
		well(t, f, write(fd, at, filled(at, api.Sector)))
	}
	well(t, f, closing(fd))
}

func at(name string, node int) dirfs.Entry {
	return dirfs.Entry{Name: name, Node: node}
}

// every answers the steps of a path, and the words before their errors.
func every(path string) map[string]step {
	return map[string]step{
		"Mkdir ": mkdir(path), "Create ": create(path), "Open ": open(path), "Unlink ": unlink(path), "List ": list(path),
		"Rename ": rename(path, "/new"),
	}
}

// P7.2: the path's own error is ahead of those on the way, and these ahead of
// all others; each names the method and the path.
func TestPathErrors(t *testing.T) {
	f := world(t, 128)
	// Nothing is left for what could be made, and no descriptor.
	for _, path := range named(25) {
		well(t, f, create(path))
	}
	for _, path := range named(7) {
		opened(t, f, path)
	}
	for _, c := range []struct{ path, want string }{
		{"", "no such name may be"},
		{"d", "no such name may be"},
		{"//", "no such name may be"},
		{"/d/", "no such name may be"},
		{"/d//f", "no such name may be"},
		{"/D", "no such name may be"},
		{"/d/..", "no such name may be"},
		{"/./d", "no such name may be"},
		{"/q/D", "no such name may be"},
		{"/x/D", "no such name may be"},
		{"/d f", "no such name may be"},
		{"/d\x00", "no such name may be"},
		{"/\xff\xfe", "no such name may be"},
		{"/" + strings.Repeat("n", 25), "no such name may be"},
		{strings.Repeat("/d", 9), "no such name may be"},
		{"/" + strings.Repeat("n", 1<<20), "no such name may be"},
		{strings.Repeat("/d", 8), "not there"},
		{"/q/r", "not there"},
		{"/q/r/s", "not there"},
		{"/d/q/r", "not there"},
		{"/x/r", "no directory"},
		{"/x/r/s", "no directory"},
		{"/d/f/r", "no directory"},
		{"/o/r", "no directory"},
	} {
		for op, s := range every(c.path) {
			refuses(t, f, expect{s, op + c.path + ": " + c.want})
		}
		refuses(t, f, expect{rename("/x", c.path), "Rename " + c.path + ": " + c.want})
	}
}

// P7.2: the errors of each method, on a file system that has room.
func TestNodeErrors(t *testing.T) {
	f := world(t, 128)
	refuses(t, f,
		expect{mkdir("/"), "Mkdir /: there already"},
		expect{mkdir("/d"), "Mkdir /d: there already"},
		expect{mkdir("/x"), "Mkdir /x: there already"},
		expect{mkdir("/d/f"), "Mkdir /d/f: there already"},
		expect{create("/"), "Create /: there already"},
		expect{create("/d"), "Create /d: there already"},
		expect{create("/o"), "Create /o: there already"},
		expect{open("/q"), "Open /q: not there"},
		expect{open("/d/q"), "Open /d/q: not there"},
		expect{open("/"), "Open /: a directory"},
		expect{open("/d"), "Open /d: a directory"},
		expect{unlink("/q"), "Unlink /q: not there"},
		expect{unlink("/d/e/q"), "Unlink /d/e/q: not there"},
		expect{unlink("/o"), "Unlink /o: in use"},
		expect{unlink("/"), "Unlink /: in use"},
		expect{unlink("/d"), "Unlink /d: not empty"},
		expect{list("/q"), "List /q: not there"},
		expect{list("/x"), "List /x: no directory"},
		expect{list("/o"), "List /o: no directory"},
		expect{list("/d/f"), "List /d/f: no directory"},
	)
}

// P7.2: Rename's errors, in their order.
func TestRenameErrors(t *testing.T) {
	f := world(t, 128)
	refuses(t, f,
		expect{rename("q", "Q"), "Rename q: no such name may be"},
		expect{rename("/q", "Q"), "Rename /q: not there"},
		expect{rename("/q/r", "/x/r"), "Rename /q/r: not there"},
		expect{rename("/x/r", "/q/r"), "Rename /x/r: no directory"},
		expect{rename("/q", "/q"), "Rename /q: not there"},
		expect{rename("/", "Q"), "Rename /: in use"},
		expect{rename("/", "/x/r"), "Rename /: in use"},
		expect{rename("/", "/"), "Rename /: in use"},
		expect{rename("/", "/d"), "Rename /: in use"},
		expect{rename("/x", "Q"), "Rename Q: no such name may be"},
		expect{rename("/x", "/x/r"), "Rename /x/r: no directory"},
		expect{rename("/d", "/d/q/r"), "Rename /d/q/r: not there"},
		expect{rename("/d", "/d/f/r"), "Rename /d/f/r: no directory"},
		expect{rename("/x", "/"), "Rename /: in use"},
		expect{rename("/d/e", "/"), "Rename /: in use"},
		expect{rename("/d", "/d/q"), "Rename /d/q: in use"},
		expect{rename("/d", "/d/e"), "Rename /d/e: in use"},
		expect{rename("/d", "/d/f"), "Rename /d/f: in use"},
		expect{rename("/d", "/d/e/q"), "Rename /d/e/q: in use"},
		expect{rename("/d", "/d"), "OK"},
		expect{rename("/x", "/x"), "OK"},
		expect{rename("/o", "/o"), "OK"},
		expect{rename("/d/e", "/d/e"), "OK"},
		expect{rename("/x", "/o"), "Rename /o: in use"},
		expect{rename("/d", "/o"), "Rename /o: in use"},
		expect{rename("/d", "/x"), "Rename /x: no directory"},
		expect{rename("/d/e", "/d/f"), "Rename /d/f: no directory"},
		expect{rename("/d/e", "/d"), "Rename /d: not empty"},
		expect{rename("/x", "/d"), "Rename /d: a directory"},
		expect{rename("/o", "/d/e"), "Rename /d/e: a directory"},
		expect{rename("/d/f", "/d"), "Rename /d: a directory"},
	)
	well(t, f, mkdir("/y"))
	refuses(t, f, expect{rename("/y", "/d"), "Rename /d: not empty"})
}

// P7.2: what Rename does where it may.
func TestRename(t *testing.T) {
	f := world(t, 128)
	well(t, f, write(0, 0, []byte("text")), mkdir("/y"), mkdir("/d/e/g"))
	plays(t, f,
		expect{free(), "70 23"},
		expect{rename("/x", "/d/e/x"), "OK"},
		expect{list("/d/e"), "[{g 8} {x 5}]"},
		// An open file goes on, wherever it is.
		expect{rename("/o", "/d/f"), "OK"},
		expect{list("/d"), "[{e 4} {f 6}]"},
		expect{read(0, 0, 9), fmt.Sprint([]byte("text"))},
		expect{unlink("/d/f"), "Unlink /d/f: in use"},
		expect{free(), "70 24"},
		expect{write(0, 4, []byte("s")), "OK"},
		expect{rename("/d/e", "/y"), "OK"},
		expect{free(), "70 25"},
		expect{list("/"), "[{d 2} {y 4}]"},
		expect{list("/y"), "[{g 8} {x 5}]"},
		expect{rename("/d", "/y/g"), "OK"},
		expect{list("/"), "[{y 4}]"},
		expect{list("/y/g"), "[{f 6}]"},
		expect{read(0, 0, 9), fmt.Sprint([]byte("texts"))},
		expect{free(), "70 26"},
		expect{open("/y/g/f"), "1"},
		expect{read(1, 1, 3), fmt.Sprint([]byte("ext"))},
		expect{closing(1), "OK"},
		// The one that goes, though not the one that it goes onto, may be open.
		expect{rename("/y/g/f", "/y/x"), "OK"},
		expect{rename("/y/x", "/y/x"), "OK"},
		expect{closing(0), "OK"},
		expect{list("/y"), "[{g 2} {x 6}]"},
	)
}

// P7.2: what a file held goes with it when another comes in its place.
func TestRenameOntoFile(t *testing.T) {
	f := world(t, 200)
	well(t, f, closing(0), create("/big"))
	plays(t, f, expect{open("/big"), "0"}, expect{write(0, 135*512, filled(1, 4096)), "OK"}, expect{closing(0), "OK"})
	plays(t, f,
		expect{free(), "133 24"},
		expect{rename("/x", "/big"), "OK"},
		expect{free(), "144 25"},
		expect{open("/big"), "0"},
		expect{size(0), "0"},
	)
}

// P7.2: a new node is the least that is free; the 32nd is one too many.
func TestNodes(t *testing.T) {
	_, f := made(t, 128)
	plays(t, f, expect{free(), "74 30"})
	var want []string
	for i, path := range named(30) {
		if i%2 == 0 {
			well(t, f, mkdir(path))
		} else {
			well(t, f, create(path))
		}
		want = append(want, fmt.Sprintf("{%s %d}", path[1:], i+2))
		if _, nodes := f.Free(); nodes != 29-i {
			t.Errorf("%d nodes are free, behind %d", nodes, i+1)
		}
	}
	l, _ := f.List("/")
	if len(l) != 30 || l[0] != at("n0", 2) || l[29] != at("n9", 11) {
		t.Errorf("%v, want %v", l, want)
	}
	refuses(t, f,
		expect{mkdir("/new"), "Mkdir /new: no room"},
		expect{create("/new"), "Create /new: no room"},
		expect{create("/n2/new"), "Create /n2/new: no room"},
		// Other errors are ahead.
		expect{create("/n2"), "Create /n2: there already"},
		expect{mkdir("/"), "Mkdir /: there already"},
		expect{mkdir("/q/new"), "Mkdir /q/new: not there"},
		expect{mkdir("/n1/new"), "Mkdir /n1/new: no directory"},
		expect{mkdir("/New"), "Mkdir /New: no such name may be"},
	)
	well(t, f, unlink("/n20"), unlink("/n3"), unlink("/n8"), create("/a"), mkdir("/n0/b"), mkdir("/n0/b/c"))
	plays(t, f,
		expect{list("/n0"), "[{b 10}]"},
		expect{list("/n0/b"), "[{c 22}]"},
		expect{create("/n0/b/c/d"), "Create /n0/b/c/d: no room"},
	)
	if l, _ := f.List("/"); l[0] != at("a", 5) {
		t.Errorf("%v", l)
	}
}

// P7.2: a directory takes a block for each 16 entries, and keeps them while it
// is there; where no block is left for an entry, nothing is made.
func TestDirectoryBlocks(t *testing.T) {
	for _, make := range []func(string) step{mkdir, create} {
		_, f := made(t, 128)
		well(t, f, mkdir("/d"))
		plays(t, f, expect{free(), "73 29"})
		for i, path := range named(17) {
			well(t, f, make("/d"+path))
			if blocks, _ := f.Free(); blocks != 72-i/16 {
				t.Errorf("%d blocks are free, behind %d entries", blocks, i+1)
			}
		}
		plays(t, f, expect{free(), "71 12"})
		for _, path := range named(17) {
			well(t, f, unlink("/d"+path))
		}
		plays(t, f,
			expect{free(), "71 29"},
			expect{unlink("/d"), "OK"},
			expect{free(), "73 30"},
		)
	}
}

// P7.2: the last block, and one more.
func TestNoBlockLeft(t *testing.T) {
	_, f := made(t, 128)
	well(t, f, mkdir("/d"), mkdir("/e"))
	for _, path := range named(15) {
		well(t, f, create("/d"+path))
	}
	fill(t, f, "/x", 0)
	full := func(l ...expect) {
		t.Helper()
		plays(t, f, expect{free(), fmt.Sprint("0 ", 31-1-1-1-15-1)})
		refuses(t, f, l...)
	}
	// The sixteenth entry has room, the first of another directory has none.
	full(
		expect{mkdir("/e/new"), "Mkdir /e/new: no room"},
		expect{create("/e/new"), "Create /e/new: no room"},
		expect{rename("/x", "/e/x"), "Rename /e/x: no room"},
		expect{rename("/e", "/d/n3/e"), "Rename /d/n3/e: no directory"},
		expect{rename("/d/n3", "/e/n3"), "Rename /e/n3: no room"},
	)
	well(t, f, rename("/x", "/d/x"))
	full(
		expect{mkdir("/d/new"), "Mkdir /d/new: no room"},
		expect{create("/d/new"), "Create /d/new: no room"},
		expect{create("/d/x"), "Create /d/x: there already"},
		expect{rename("/e", "/d/e"), "Rename /d/e: no room"},
		expect{rename("/e", "/d/x"), "Rename /d/x: no directory"},
	)
	// In the same directory, and in the place of another, there is room.
	well(t, f, rename("/d/x", "/d/new"), rename("/d/n5", "/d/n6"))
	plays(t, f, expect{free(), "0 13"})
	well(t, f, create("/d/n5"), create("/y"))
	plays(t, f, expect{free(), "0 11"}, expect{rename("/y", "/d/n5"), "OK"}, expect{free(), "0 12"})
	well(t, f, unlink("/d/new"), create("/e/new"))
}

// P7.2: a directory that moves takes along what is in it, however long the
// paths become.
func TestDeep(t *testing.T) {
	_, f := made(t, 128)
	path := ""
	for range 8 {
		path += "/a"
		well(t, f, mkdir(path))
	}
	refuses(t, f, expect{mkdir(path + "/a"), "Mkdir " + path + "/a: no such name may be"})
	well(t, f, mkdir("/b"), create("/b/f"), rename("/b", path))
	plays(t, f,
		expect{list(path), "[{f 11}]"},
		expect{open(path + "/f"), "Open " + path + "/f: no such name may be"},
		expect{unlink(path), "Unlink " + path + ": not empty"},
		expect{rename(path, "/c"), "OK"},
		expect{open("/c/f"), "0"},
		expect{rename("/c", path), "OK"},
		expect{write(0, 0, []byte("x")), "OK"},
		expect{size(0), "1"},
	)
}

// P7.2: a file's blocks, and an empty directory's, are free behind Unlink.
func TestUnlink(t *testing.T) {
	f := world(t, 200)
	well(t, f, write(0, 102400-4096, filled(3, 4096)), write(0, 4096, filled(4, 512)), closing(0))
	plays(t, f,
		expect{free(), "132 25"},
		expect{unlink("/o"), "OK"},
		expect{free(), "144 26"},
		expect{unlink("/o"), "Unlink /o: not there"},
		expect{open("/o"), "Open /o: not there"},
		expect{unlink("/d/e"), "OK"},
		expect{unlink("/d/f"), "OK"},
		expect{free(), "144 28"},
		expect{unlink("/d"), "OK"},
		expect{free(), "145 29"},
		expect{list("/"), "[{x 5}]"},
		expect{list("/d"), "List /d: not there"},
	)
	// As long as one descriptor of several is open, the file is.
	plays(t, f, expect{open("/x"), "0"}, expect{open("/x"), "1"}, expect{closing(0), "OK"},
		expect{unlink("/x"), "Unlink /x: in use"}, expect{closing(1), "OK"}, expect{unlink("/x"), "OK"})
}

// P7.2: entries rise by their names.
func TestList(t *testing.T) {
	_, f := made(t, 128)
	plays(t, f, expect{list("/"), "[]"})
	well(t, f, create("/b"), create("/a.b"), mkdir("/a"), create("/z"), create("/_"), create("/-"), create("/0"), create("/aa"), mkdir("/z9"), create("/a/x"))
	plays(t, f,
		expect{list("/"), "[{- 7} {0 8} {_ 6} {a 4} {a.b 3} {aa 9} {b 2} {z 5} {z9 10}]"},
		expect{list("/a"), "[{x 11}]"},
		expect{list("/z9"), "[]"},
	)
}

// P0.1, P7.3: a nil *FS, and one that Mount did not make, is ErrRange.
func TestNoFS(t *testing.T) {
	for _, f := range []*fs.FS{nil, {}} {
		for _, s := range []step{
			mkdir("/a"), mkdir("/"), mkdir("A"), create("/a"), create(""), open("/a"), open("/"), unlink("/a"), unlink("/"), list("/"), list("a"),
			rename("/a", "/b"), rename("/", "/"), rename("a", "b"), closing(0), closing(-1), size(0), read(0, 0, 1), read(-1, -1, -1),
			write(0, 0, []byte("a")), write(0, 0, nil), write(9, -1, filled(1, 5000)), truncate(0, 0), truncate(-1, math.MaxInt), syncing(),
		} {
			plays(t, f, expect{s, "out of range"})
		}
		plays(t, f, expect{free(), "0 0"})
	}
}

// P7.2: a PathError tells what it is of.
func TestPathError(t *testing.T) {
	_, f := made(t, 128)
	err := f.Rename("/q", "/r")
	var p *fs.PathError
	if !errors.As(err, &p) || p.Op != "Rename" || p.Path != "/q" || !errors.Is(p.Err, api.ErrNotFound) || p.Unwrap() != p.Err {
		t.Errorf("%#v", err)
	}
	if err.Error() != "Rename /q: not there" {
		t.Errorf("%q", err.Error())
	}
	for k := api.ErrRange; k <= api.ErrLine; k++ {
		if e := (&fs.PathError{Op: "Open", Path: "/a", Err: k}); e.Error() != "Open /a: "+k.Error() || e.Unwrap() != k {
			t.Errorf("%v, %v", e, e.Unwrap())
		}
	}
	// Such as the program doesn't make.
	itself := &fs.PathError{Op: "Open", Path: "/a"}
	itself.Err = itself
	for _, e := range []*fs.PathError{nil, {}, itself, {Err: errors.New("another")}, {Err: api.Err(-1)}, {Err: (*fs.PathError)(nil)}} {
		if e.Error() == "" {
			t.Error("an error without words")
		}
		if e != nil && e.Unwrap() != e.Err || e == nil && e.Unwrap() != nil {
			t.Errorf("%v: %v", e, e.Unwrap())
		}
	}
}
