package fs_test

import (
	"bytes"
	"cmp"
	"errors"
	"fmt"
	"hash/fnv"
	"reflect"
	"strings"
	"testing"

	"lychgate/api"
	"lychgate/blockdev"
	"lychgate/dirfs"
	"lychgate/fs"
)

// face is what a file system and the model of one have in common.
type face interface {
	Mkdir(path string) error
	Create(path string) error
	Open(path string) (int, error)
	Close(fd int) error
	Read(fd, at, n int) ([]byte, error)
	Write(fd, at int, b []byte) error
	Truncate(fd, n int) error
	Size(fd int) (int, error)
	Unlink(path string) error
	Rename(from, to string) error
	List(path string) ([]dirfs.Entry, error)
	Sync() error
	Free() (int, int)
}

// step is a call of a method: do tells in words what it answers.
type step struct {
	what string
	do   func(f face) string
}

func mkdir(path string) step {
	return step{"mkdir " + path, func(f face) string { return said("OK", f.Mkdir(path)) }}
}

func create(path string) step {
	return step{"create " + path, func(f face) string { return said("OK", f.Create(path)) }}
}

func unlink(path string) step {
	return step{"unlink " + path, func(f face) string { return said("OK", f.Unlink(path)) }}
}

func rename(from, to string) step {
	return step{"rename " + from + " " + to, func(f face) string { return said("OK", f.Rename(from, to)) }}
}

func list(path string) step {
	return step{"list " + path, func(f face) string {
		l, err := f.List(path)
		return answered(l, err)
	}}
}

func open(path string) step {
	return step{"open " + path, func(f face) string {
		fd, err := f.Open(path)
		return answered(fd, err)
	}}
}

func closing(fd int) step {
	return step{fmt.Sprint("close ", fd), func(f face) string { return said("OK", f.Close(fd)) }}
}

func size(fd int) step {
	return step{fmt.Sprint("size ", fd), func(f face) string {
		n, err := f.Size(fd)
		return answered(n, err)
	}}
}

func read(fd, at, n int) step {
	return step{fmt.Sprint("read ", fd, at, n), func(f face) string {
		b, err := f.Read(fd, at, n)
		return answered(b, err)
	}}
}

func write(fd, at int, b []byte) step {
	return step{fmt.Sprintf("write %d %d %d bytes", fd, at, len(b)), func(f face) string {
		was := bytes.Clone(b)
		answer := said("OK", f.Write(fd, at, b))
		if !bytes.Equal(b, was) {
			return "other bytes than were handed in"
		}
		return answer
	}}
}

func truncate(fd, n int) step {
	return step{fmt.Sprint("truncate ", fd, n), func(f face) string { return said("OK", f.Truncate(fd, n)) }}
}

func free() step {
	return step{"free", func(f face) string { return fmt.Sprint(f.Free()) }}
}

func syncing() step {
	return step{"sync", func(f face) string { return said("OK", f.Sync()) }}
}

// said tells an error in words, and ok where there is none.
func said(ok string, err error) string {
	var p *fs.PathError
	var kinds []string
	for k := api.ErrRange; k <= api.ErrLine; k++ {
		if errors.Is(err, k) {
			kinds = append(kinds, k.Error())
		}
	}
	switch kind := strings.Join(kinds, " and "); {
	case err == nil:
		return ok
	case kind == "":
		return "none of api's errors: " + err.Error()
	case errors.As(err, &p):
		return p.Op + " " + p.Path + ": " + kind
	default:
		return kind
	}
}

// answered tells an answer in words. Beside an error there shall be none.
func answered(v any, err error) string {
	x := reflect.ValueOf(v)
	if err != nil && !x.IsZero() && !(x.Kind() == reflect.Slice && x.Len() == 0) {
		return fmt.Sprintf("%v beside %s", v, said("", err))
	}
	return said(fmt.Sprint(v), err)
}

// expect is a step and what it answers.
type expect struct {
	step
	want string
}

func plays(t *testing.T, f face, l ...expect) {
	t.Helper()
	for _, x := range l {
		if got := x.do(f); got != x.want {
			t.Errorf("%s: %.200s, want %.200s", x.what, got, x.want)
		}
	}
}

// refuses plays steps that change nothing, each on what those ahead left.
func refuses(t *testing.T, f face, l ...expect) {
	t.Helper()
	for _, x := range l {
		was := dump(f)
		plays(t, f, x)
		if is := dump(f); is != was {
			t.Errorf("%s: it was refused, and changed %s to %s", x.what, was, is)
		}
	}
}

// well plays steps that are OK.
func well(t testing.TB, f face, l ...step) {
	t.Helper()
	for _, x := range l {
		if got := x.do(f); got != "OK" {
			t.Fatalf("%s: %s", x.what, got)
		}
	}
}

// opened opens a file that is there.
func opened(t testing.TB, f face, path string) int {
	t.Helper()
	fd, err := f.Open(path)
	if err != nil {
		t.Fatalf("open %s: %v", path, err)
	}
	return fd
}

func made(t testing.TB, sectors int) (*blockdev.Disk, *fs.FS) {
	t.Helper()
	d := blockdev.New(sectors)
	if err := fs.Mkfs(d); err != nil {
		t.Fatal(err)
	}
	return d, mounted(t, d)
}

func mounted(t testing.TB, d *blockdev.Disk) *fs.FS {
	t.Helper()
	f, err := fs.Mount(d)
	if err != nil {
		t.Fatal(err)
	}
	return f
}

// filled makes n bytes, others for each c.
func filled(c, n int) []byte {
	b := make([]byte, n)
	for i := range b {
		b[i] = byte(c + i*i/7)
	}
	return b
}

// dump tells all that is to be seen of a file system. Where all descriptors are
// taken, what files hold isn't.
func dump(f face) string {
	var s strings.Builder
	fmt.Fprintln(&s, free().do(f))
	dumpBelow(f, "", &s)
	return s.String()
}

func dumpBelow(f face, path string, s *strings.Builder) {
	l, err := f.List(cmp.Or(path, "/"))
	fmt.Fprintln(s, path, said("", err), l)
	if errors.Is(err, api.ErrNotDir) {
		dumpFile(f, path, s)
	}
	for _, e := range l {
		dumpBelow(f, path+"/"+e.Name, s)
	}
}

func dumpFile(f face, path string, s *strings.Builder) {
	fd, err := f.Open(path)
	if err != nil {
		fmt.Fprintln(s, said("", err))
		return
	}
	n, err := f.Size(fd)
	b, err2 := f.Read(fd, 0, n+1)
	// A sum will do where there is much of it.
	if len(b) > 100 {
		h := fnv.New64a()
		h.Write(b)
		b = fmt.Appendf(nil, "%q, sum %x", b[:20], h.Sum(nil))
	}
	fmt.Fprintln(s, n, said("", err), string(b), said("", err2), said("", f.Close(fd)))
}
