package journal_test

import (
	"bytes"
	"errors"
	"fmt"
	"math"
	"strings"
	"testing"

	"lychgate/api"
	"lychgate/blockdev"
	"lychgate/fs"
	"lychgate/journal"
)

// seen tells what is to be seen of a file system: what is free, what is in its
// directories, how long those files are that can be opened, and what is open.
func seen(f *fs.FS) string {
	var s strings.Builder
	fmt.Fprintln(&s, fmt.Sprint(f.Free()))
	for _, path := range []string{"/", "/d"} {
		l, err := f.List(path)
		fmt.Fprintln(&s, path, l, err)
		for _, e := range l {
			if fd, err := f.Open(path + "/" + e.Name); err == nil {
				n, _ := f.Size(fd)
				fmt.Fprintln(&s, e.Name, n)
				f.Close(fd)
			}
		}
	}
	for fd := range 8 {
		n, err := f.Size(fd)
		fmt.Fprintln(&s, fd, n, err)
	}
	return s.String()
}

// wontOpen checks that a path is refused, and nothing changed.
func wontOpen(t *testing.T, f *fs.FS, path string, want api.Err) {
	t.Helper()
	was := seen(f)
	j, err := journal.Open(f, path)
	refused(t, "Open of "+path, err, want)
	var e *fs.PathError
	if j != nil || !errors.As(err, &e) || e.Path != path || !errors.Is(err, e) {
		t.Errorf("Open of %s: %v, %v", path, j, err)
	}
	if is := seen(f); is != was {
		t.Errorf("Open of %s changed %s to %s", path, was, is)
	}
}

// P10.2: paths that are none, that lead nowhere, and that are directories.
func TestWrongPaths(t *testing.T) {
	_, f := made(t, 128)
	well(t, f.Mkdir("/d"), f.Mkdir("/d/e"), f.Create("/x"))
	long := "/" + strings.Repeat("n", 25)
	for _, path := range []string{"", "j", "d/j", "//", "//j", "/j/", "/d/", "/.", "/..", "/d/..", "/J", "/a b", "/j\x00", "/\xff", long, long + "/j", strings.Repeat("/a", 9)} {
		wontOpen(t, f, path, api.ErrName)
	}
	for _, path := range []string{"/q/j", "/d/q/j", "/q/q/q", strings.Repeat("/a", 8)} {
		wontOpen(t, f, path, api.ErrNotFound)
	}
	for _, path := range []string{"/x/j", "/x/d/j"} {
		wontOpen(t, f, path, api.ErrNotDir)
	}
	for _, path := range []string{"/", "/d", "/d/e"} {
		wontOpen(t, f, path, api.ErrIsDir)
	}
}

// P10.2: no node is left for the file.
func TestNoNode(t *testing.T) {
	_, f := made(t, 128)
	well(t, f.Mkdir("/d"))
	for k := range 29 {
		well(t, f.Create(fmt.Sprint("/n", k)))
	}
	wontOpen(t, f, "/j", api.ErrFull)
	wontOpen(t, f, "/d/j", api.ErrFull)
	wontOpen(t, f, "/q/j", api.ErrNotFound)
	j := opened(t, f, "/n7")
	well(t, j.Append(nil))
	well(t, f.Unlink("/n3"))
	well(t, opened(t, f, "/d/j").Append(nil))
}

// P10.2: no block is left for the file's name.
func TestNoBlock(t *testing.T) {
	_, f := made(t, 128)
	well(t, f.Mkdir("/d"))
	fill(t, f, 0)
	wontOpen(t, f, "/d/j", api.ErrFull)
	// Names of a directory that has room for them need none.
	well(t, opened(t, f, "/j").Close())
}

// fill lets only so many blocks be free: the others are the file's /full. It
// answers an open descriptor of that.
func fill(t *testing.T, f *fs.FS, left int) int {
	t.Helper()
	well(t, f.Create("/full"))
	fd, err := f.Open("/full")
	well(t, err)
	for k := 0; ; k++ {
		n, _ := f.Free()
		if n == left {
			return fd
		}
		if n < left {
			t.Fatal("the disk can't be filled so")
		}
		well(t, f.Write(fd, k*512, []byte("a")))
	}
}

// P10.2: all descriptors are taken, so neither a file that is there is opened
// nor one made.
func TestNoDescriptor(t *testing.T) {
	_, f := made(t, 128)
	well(t, f.Mkdir("/d"), f.Create("/x"), f.Create("/d/x"))
	var l []*journal.Journal
	for k := range 8 {
		l = append(l, opened(t, f, fmt.Sprint("/j", k)))
	}
	for range 2 {
		for _, path := range []string{"/j0", "/x", "/new", "/d/new"} {
			wontOpen(t, f, path, api.ErrFull)
		}
		wontOpen(t, f, "new", api.ErrName)
		wontOpen(t, f, "/q/j", api.ErrNotFound)
		wontOpen(t, f, "/x/j", api.ErrNotDir)
		wontOpen(t, f, "/d", api.ErrIsDir)
	}
	for k, j := range l {
		well(t, j.Append([]byte{byte(k)}), j.Close())
		holds(t, f, fmt.Sprint("/j", k), j, [][]byte{{byte(k)}})
		l[k] = opened(t, f, fmt.Sprint("/new", k))
	}
}

// wontTake checks that a record is refused, and nothing changed.
func wontTake(t *testing.T, f *fs.FS, j *journal.Journal, n int, want api.Err) {
	t.Helper()
	was, size, l := seen(f), j.Size(), j.Records()
	b := filled(n, n)
	refused(t, fmt.Sprint("Append of ", n), j.Append(b), want)
	if is := seen(f); is != was || j.Size() != size || !same(j.Records(), l) {
		t.Errorf("Append of %d bytes: it was refused, and changed %s to %s", n, was, is)
	}
	if !bytes.Equal(b, filled(n, n)) {
		t.Errorf("Append of %d bytes changed them", n)
	}
}

// P10.2: records of too many bytes.
func TestBigRecord(t *testing.T) {
	_, f := made(t, 128)
	j := opened(t, f, "/j")
	var l [][]byte
	for _, n := range []int{4089, 4090, 4096, 4097, 1 << 16, 1<<16 + 3, 1 << 24} {
		wontTake(t, f, j, n, api.ErrBig)
		l = append(l, filled(n, n%100))
		well(t, j.Append(l[len(l)-1]))
		holds(t, f, "/j", j, l)
	}
}

// P10.2: on a full disk a record is refused that needs more blocks than are
// left, and nothing has changed; one that needs no more is taken.
func TestFullDisk(t *testing.T) {
	for left := range 12 {
		for _, size := range []int{0, 1, 10, 503, 504, 505, 1004, 3600, 4088} {
			_, f := made(t, 128)
			j := opened(t, f, "/j")
			l := [][]byte{filled(1, size)}
			well(t, j.Append(l[0]))
			fd := fill(t, f, left)
			for _, n := range []int{4088, 4000, 3000, 2000, 513, 505, 504, 100, 4, 1, 0} {
				if blocks, _ := f.Free(); needs(j.Size(), j.Size()+8+n) > blocks {
					wontTake(t, f, j, n, api.ErrFull)
				} else {
					l = append(l, filled(n, n))
					well(t, j.Append(filled(n, n)))
				}
				holds(t, f, "/j", j, l)
			}
			wontTake(t, f, j, 4089, api.ErrBig)
			well(t, j.Close())
			j = opened(t, f, "/j")
			holds(t, f, "/j", j, l)
			// With room there it goes on.
			well(t, f.Truncate(fd, 0), j.Append(filled(2, 4088)))
			holds(t, f, "/j", j, append(l, filled(2, 4088)))
		}
	}
}

// needs tells how many blocks a file takes that grows so, of at most 136.
func needs(from, to int) int {
	n := (to+511)/512 - (from+511)/512
	if from <= 8*512 && to > 8*512 {
		n++ // the indirect one
	}
	return n
}

// P10.2: a disk that is filled up by a journal keeps all that it took.
func TestFillUp(t *testing.T) {
	for _, n := range []int{0, 1, 200, 504, 1000, 4000, 4088} {
		_, f := made(t, 128)
		j := opened(t, f, "/j")
		var l [][]byte
		for j.Append(filled(len(l), n)) == nil {
			l = append(l, filled(len(l), n))
		}
		wontTake(t, f, j, n, api.ErrFull)
		for k := range 12 {
			if b := filled(k, 4000>>k); j.Append(b) == nil {
				l = append(l, b)
			}
		}
		holds(t, f, "/j", j, l)
		well(t, j.Close(), f.Sync())
		holds(t, f, "/j", opened(t, f, "/j"), l)
		if blocks, _ := f.Free(); j.Size() < 60*512 || blocks > 1 {
			t.Errorf("%d bytes in records of %d, %d blocks left", j.Size(), n, blocks)
		}
	}
}

// P10.2: a file of 200 blocks takes no more.
func TestTooLong(t *testing.T) {
	_, f := made(t, 400)
	j := opened(t, f, "/j")
	for k := range 24 {
		well(t, j.Append(filled(k, 4088)))
	}
	well(t, j.Append(filled(1, 4000)))
	for _, n := range []int{81, 82, 88, 1000, 4088, 4089} {
		wontTake(t, f, j, n, api.ErrBig)
	}
	well(t, j.Append(filled(1, 80)))
	for _, n := range []int{0, 1, 4088} {
		wontTake(t, f, j, n, api.ErrBig)
	}
	if j.Size() != 200*512 || len(j.Records()) != 26 {
		t.Errorf("Size %d, %d records", j.Size(), len(j.Records()))
	}
}

// P10.2: no file system, none that Mount made, and no journal.
func TestNone(t *testing.T) {
	for _, f := range []*fs.FS{nil, {}} {
		for _, path := range []string{"", "/", "/j", "j"} {
			j, err := journal.Open(f, path)
			refused(t, "Open of no file system", err, api.ErrRange)
			if j != nil {
				t.Errorf("%v", j)
			}
		}
	}
	for _, j := range []*journal.Journal{nil, {}} {
		for range 2 {
			refused(t, "Append", j.Append(nil), api.ErrRange)
			refused(t, "Append", j.Append([]byte("a")), api.ErrRange)
			if l, n := j.Records(), j.Size(); len(l) > 0 || n != 0 {
				t.Errorf("%q, %d", l, n)
			}
			refused(t, "Close", j.Close(), api.ErrRange)
		}
	}
	var none *journal.Journal
	refused(t, "Append", none.Append(make([]byte, 4089)), api.ErrRange)
}

// P10.2: a journal that is closed takes nothing, and touches no file that has
// its descriptor now.
func TestClosed(t *testing.T) {
	_, f := made(t, 128)
	j := opened(t, f, "/j")
	well(t, j.Append([]byte("one")), j.Close())
	lay(t, f, "/x", []byte("text"))
	fd, err := f.Open("/x")
	well(t, err)
	for range 2 {
		wontTake(t, f, j, 3, api.ErrRange)
		wontTake(t, f, j, 0, api.ErrRange)
		wontTake(t, f, j, 4089, api.ErrBig)
		refused(t, "Close", j.Close(), api.ErrRange)
		holds(t, f, "/j", j, [][]byte{[]byte("one")})
	}
	n, err := f.Size(fd)
	if n != 4 || err != nil || string(content(t, f, "/x")) != "text" {
		t.Errorf("Size %d, %v", n, err)
	}
}

// P10.2: somebody else gave the journal's descriptor back.
func TestDescriptorIsGone(t *testing.T) {
	_, f := made(t, 128)
	j := opened(t, f, "/j")
	well(t, j.Append([]byte("one")), f.Close(0))
	wontTake(t, f, j, 3, api.ErrRange)
	refused(t, "Close", j.Close(), api.ErrRange)
	lay(t, f, "/x", []byte("text"))
	_, err := f.Open("/x")
	well(t, err)
	wontTake(t, f, j, 3, api.ErrRange)
	refused(t, "Close", j.Close(), api.ErrRange)
	if string(content(t, f, "/x")) != "text" {
		t.Error("another file was written")
	}
}

// P10.2: errors tell in words what they are of, and wrap what they come from.
func TestErrorsWrap(t *testing.T) {
	_, f := made(t, 128)
	_, err := journal.Open(f, "/q/j")
	var path *fs.PathError
	if !errors.As(err, &path) || err == error(path) || err.Error() != "journal: open: "+path.Error() {
		t.Errorf("Open: %v", err)
	}
	j := opened(t, f, "/j")
	_, frame := journal.Frame(make([]byte, math.MaxUint16))
	err = j.Append(make([]byte, math.MaxUint16))
	if errors.Unwrap(err) != frame || err.Error() != "journal: append: too big" {
		t.Errorf("Append: %v", err)
	}
	fill(t, f, 0)
	err = j.Append(nil)
	if errors.Unwrap(err) == nil || !strings.HasPrefix(err.Error(), "journal: append: ") || !strings.HasSuffix(err.Error(), "no room") {
		t.Errorf("Append: %v", err)
	}
	well(t, j.Close())
	err = j.Close()
	if errors.Unwrap(err) == nil || err.Error() != "journal: close: out of range" {
		t.Errorf("Close: %v", err)
	}
}

// P0.1: a disk without power tells of it in Sync alone.
func TestDeadDisk(t *testing.T) {
	d := blockdev.New(128)
	well(t, fs.Mkfs(d))
	f := mounted(t, d)
	j := opened(t, f, "/j")
	d.Limit(0)
	var l [][]byte
	for k := range 60 {
		l = append(l, filled(k, 100*(k%10)))
		well(t, j.Append(l[k]))
	}
	holds(t, f, "/j", j, l)
	refused(t, "Sync", f.Sync(), api.ErrBroken)
	well(t, j.Close())
	holds(t, f, "/j", opened(t, f, "/j"), l)
}
