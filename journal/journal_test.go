package journal_test

import (
	"bytes"
	"fmt"
	"slices"
	"testing"

	"lychgate/blockdev"
	"lychgate/fs"
	"lychgate/journal"
)

// P10.2: a file that isn't there is made, empty.
func TestOpenMakes(t *testing.T) {
	_, f := made(t, 128)
	well(t, f.Mkdir("/d"))
	for _, path := range []string{"/j", "/d/a-b_c.9"} {
		j := opened(t, f, path)
		holds(t, f, path, j, nil)
		well(t, j.Close())
		j = opened(t, f, path)
		holds(t, f, path, j, nil)
		well(t, j.Append([]byte(path)), j.Close())
	}
	l, err := f.List("/")
	if fmt.Sprint(l) != "[{d 2} {j 3}]" || err != nil {
		t.Errorf("%v, %v", l, err)
	}
}

// P10.2: a journal that is made, appended to, read back and opened again, with
// records of all lengths, the empty one and those of most bytes too.
func TestAppend(t *testing.T) {
	_, f := made(t, 300)
	j := opened(t, f, "/j")
	var l [][]byte
	for k, b := range append(samples(), filled(8, 4087), filled(9, 4088), nil) {
		well(t, j.Append(b))
		l = append(l, b)
		holds(t, f, "/j", j, l)
		if k%3 == 0 {
			well(t, j.Close())
			j = opened(t, f, "/j")
			holds(t, f, "/j", j, l)
		}
	}
}

// P10.2: the file is just the frames: one that others wrote is a journal, too.
func TestOpenThere(t *testing.T) {
	_, f := made(t, 200)
	for k := range samples() {
		l := samples()[:k]
		lay(t, f, "/j", stream(l...))
		j := opened(t, f, "/j")
		holds(t, f, "/j", j, l)
		well(t, j.Append([]byte("one more")), j.Close())
		holds(t, f, "/j", j, append(l, []byte("one more")))
	}
}

// P10.2: two files, and two file systems, know nothing of one another.
func TestTwoJournals(t *testing.T) {
	_, f := made(t, 200)
	_, g := made(t, 200)
	a, b, c := opened(t, f, "/a"), opened(t, f, "/b"), opened(t, g, "/a")
	var la, lb, lc [][]byte
	for k := range 20 {
		la, lb, lc = append(la, filled(k, 10*k)), append(lb, filled(k, 300-k)), append(lc, filled(k, 7))
		well(t, a.Append(la[k]), b.Append(lb[k]), c.Append(lc[k]))
	}
	well(t, b.Close())
	holds(t, f, "/a", a, la)
	holds(t, f, "/b", b, lb)
	holds(t, g, "/a", c, lc)
	well(t, a.Append(nil))
	holds(t, f, "/a", a, append(la, nil))
}

// mends checks that a file with such an end is cut off behind its whole records
// and goes on from there.
func mends(t *testing.T, f *fs.FS, l [][]byte, b []byte) {
	t.Helper()
	lay(t, f, "/j", b)
	j := opened(t, f, "/j")
	holds(t, f, "/j", j, l)
	well(t, j.Close())
	j = opened(t, f, "/j")
	holds(t, f, "/j", j, l)
	l = append(slices.Clone(l), []byte("behind"), nil, filled(7, 90))
	well(t, j.Append([]byte("behind")), j.Append(nil), j.Append(filled(7, 90)))
	holds(t, f, "/j", j, l)
	well(t, j.Close())
	j = opened(t, f, "/j")
	holds(t, f, "/j", j, l)
	well(t, j.Close())
	if t.Failed() {
		t.Fatalf("the file began as %d bytes, %.60q", len(b), b)
	}
}

// P10.2: files that end anywhere.
func TestCutOff(t *testing.T) {
	_, f := made(t, 200)
	l := [][]byte{[]byte("one"), nil, filled(1, 500), []byte("two")}
	all := stream(l...)
	for n := range all {
		k := 0
		for len(stream(l[:k+1]...)) <= n {
			k++
		}
		mends(t, f, l[:k], all[:n])
	}
}

// P10.2: files with something else behind the whole records, short and long.
func TestJunkBehind(t *testing.T) {
	_, f := made(t, 300)
	l := [][]byte{[]byte("one"), filled(1, 500), nil}
	for _, behind := range [][]byte{
		{0}, {255}, make([]byte, 7), make([]byte, 8), make([]byte, 700), filled(2, 20000), []byte("junk behind"),
		framed(make([]byte, 4089)), append([]byte{0}, framed([]byte("late"))...), append(framed([]byte("cut"))[:10], framed([]byte("late"))...),
	} {
		mends(t, f, nil, behind)
		mends(t, f, l, append(stream(l...), behind...))
	}
}

// P10.2: files in which a byte is another one: all from that record on goes.
func TestSpoiltByte(t *testing.T) {
	_, f := made(t, 200)
	l := [][]byte{[]byte("one"), nil, filled(1, 60), []byte("two")}
	all := stream(l...)
	for i := range all {
		k := 0
		for len(stream(l[:k+1]...)) <= i {
			k++
		}
		for _, x := range []byte{1, 128, 255} {
			b := slices.Clone(all)
			b[i] ^= x
			mends(t, f, l[:k], b)
		}
	}
}

// P10.2: what is cut off gives its blocks back.
func TestCutOffFrees(t *testing.T) {
	_, f := made(t, 200)
	lay(t, f, "/j", stream([]byte("one")))
	want, _ := f.Free()
	lay(t, f, "/j", append(stream([]byte("one")), filled(1, 30000)...))
	opened(t, f, "/j")
	if got, _ := f.Free(); got != want {
		t.Errorf("%d blocks are free, want %d", got, want)
	}
}

// P10.2: a file that has nothing to be cut off isn't written.
func TestOpenWritesNothing(t *testing.T) {
	d, f := made(t, 200)
	j := opened(t, f, "/j")
	for _, b := range samples() {
		well(t, j.Append(b))
	}
	well(t, j.Close(), f.Sync())
	n := d.Writes()
	j = opened(t, f, "/j")
	holds(t, f, "/j", j, samples())
	well(t, j.Close(), f.Sync())
	if d.Writes() != n {
		t.Errorf("%d writes", d.Writes()-n)
	}
}

// P0.3: Records answers copies, that share no memory, the spare room too.
func TestRecordsAreCopies(t *testing.T) {
	_, f := made(t, 200)
	lay(t, f, "/j", append(stream(samples()[:4]...), "junk"...))
	j := opened(t, f, "/j")
	for _, b := range samples()[4:] {
		well(t, j.Append(b))
	}
	for i := range samples() {
		l, other := j.Records(), j.Records()
		scribble(l[i])
		for k, b := range samples() {
			if k != i && !bytes.Equal(l[k], b) {
				t.Errorf("records %d and %d share memory", i, k)
			}
		}
		clear(l[:cap(l)])
		if !same(other, samples()) {
			t.Errorf("two answers share record %d", i)
		}
		holds(t, f, "/j", j, samples())
	}
	l := j.Records()
	well(t, j.Append([]byte("more")))
	if !same(l, samples()) {
		t.Error("an answer grew")
	}
}

// P0.3: what Append is handed is neither changed nor kept, be it taken or not.
func TestAppendKeepsNothing(t *testing.T) {
	_, f := made(t, 200)
	j := opened(t, f, "/j")
	var l [][]byte
	for _, n := range []int{0, 1, 500, 4088, 4089, 3} {
		all, b := roomy(filled(n, n), framed([]byte("behind")))
		was := slices.Clone(all)
		if err := j.Append(b); err == nil {
			l = append(l, slices.Clone(b))
		}
		if !bytes.Equal(all, was) {
			t.Errorf("%d bytes are changed", n)
		}
		scribble(all)
		holds(t, f, "/j", j, l)
	}
	well(t, j.Close())
	holds(t, f, "/j", opened(t, f, "/j"), l)
}

// P10.2: a journal that is closed tells of its records, and its file is there
// for others.
func TestClose(t *testing.T) {
	_, f := made(t, 200)
	for k := range 20 {
		path := fmt.Sprint("/j", k)
		j := opened(t, f, path)
		well(t, j.Append([]byte(path)), j.Close())
		holds(t, f, path, j, [][]byte{[]byte(path)})
		well(t, f.Unlink(path))
		if got := j.Records(); !same(got, [][]byte{[]byte(path)}) || j.Size() != 8+len(path) {
			t.Errorf("%q, %d", got, j.Size())
		}
	}
}

// P10.2: a file that is named otherwise while it is open is the same journal.
func TestRenamed(t *testing.T) {
	_, f := made(t, 200)
	j := opened(t, f, "/j")
	well(t, j.Append([]byte("one")), f.Mkdir("/d"), f.Rename("/j", "/d/k"), j.Append([]byte("two")))
	holds(t, f, "/d/k", j, [][]byte{[]byte("one"), []byte("two")})
}

// P10.2: a file may be as long as 200 blocks: 25 records of most bytes fill it.
func TestLongest(t *testing.T) {
	_, f := made(t, 400)
	j := opened(t, f, "/j")
	var l [][]byte
	for k := range 25 {
		l = append(l, filled(k, 4088))
		well(t, j.Append(l[k]))
	}
	holds(t, f, "/j", j, l)
	if j.Size() != 200*512 {
		t.Errorf("Size %d", j.Size())
	}
	well(t, j.Close())
	holds(t, f, "/j", opened(t, f, "/j"), l)
	holds(t, f, "/j", opened(t, f, "/j"), l)
	// The same with bytes at the end that are no record.
	b := content(t, f, "/j")
	b[24*4096]++
	mends(t, f, l[:24], b)
}

// P10.2: all of a journal is there for another mount of the disk.
func TestMountAgain(t *testing.T) {
	d, f := made(t, 200)
	j := opened(t, f, "/j")
	for _, b := range samples() {
		well(t, j.Append(b))
	}
	well(t, f.Sync())
	for _, e := range []*blockdev.Disk{d, d.Crash(nil)} {
		g := mounted(t, e)
		holds(t, g, "/j", opened(t, g, "/j"), samples())
	}
}

var _ interface {
	Records() [][]byte
	Append(b []byte) error
	Size() int
	Close() error
} = (*journal.Journal)(nil)
