package journal_test

import (
	"bytes"
	"encoding/binary"
	"errors"
	"hash/crc32"
	"slices"
	"testing"

	"lychgate/api"
	"lychgate/blockdev"
	"lychgate/fs"
	"lychgate/journal"
)

// filled makes n bytes, others for each c.
func filled(c, n int) []byte {
	b := make([]byte, n)
	for i := range b {
		b[i] = byte(c + i + i*i/7)
	}
	return b
}

// framed makes a record of b, of any length, in another way than Frame does.
func framed(b []byte) []byte {
	r := binary.LittleEndian.AppendUint32(nil, uint32(len(b)))
	sum := crc32.ChecksumIEEE(slices.Concat(r, b))
	return append(binary.LittleEndian.AppendUint32(r, sum), b...)
}

// stream makes all records one behind the other.
func stream(l ...[]byte) []byte {
	var b []byte
	for _, r := range l {
		b = append(b, framed(r)...)
	}
	return b
}

// samples are records of many lengths.
func samples() [][]byte {
	return [][]byte{[]byte("one"), nil, filled(1, 300), {0}, []byte("two"), {}, filled(2, 4088), filled(3, 513), make([]byte, 8), []byte("end")}
}

// same tells whether two lists of records are the same.
func same(a, b [][]byte) bool {
	return slices.EqualFunc(a, b, bytes.Equal)
}

// roomy makes a copy of b that has other bytes ahead of it, and behind in its
// spare room.
func roomy(b, behind []byte) (all, piece []byte) {
	all = slices.Concat([]byte("ahead"), b, behind)
	return all, all[5 : 5+len(b)]
}

// scribble writes over b and its spare room.
func scribble(b []byte) {
	b = b[:cap(b)]
	for i := range b {
		b[i] ^= 0x5a
	}
}

func made(t testing.TB, sectors int) (*blockdev.Disk, *fs.FS) {
	t.Helper()
	d := blockdev.New(sectors)
	if err := fs.Mkfs(d); err != nil {
		t.Fatal(err)
	}
	return d, mounted(t, d)
}

func mounted(t testing.TB, d *blockdev.Disk) *fs.FS {
	t.Helper()
	f, err := fs.Mount(d)
	if err != nil {
		t.Fatal(err)
	}
	return f
}

// well checks that calls are OK.
func well(t testing.TB, l ...error) {
	t.Helper()
	for k, err := range l {
		if err != nil {
			t.Fatalf("call %d: %v", k, err)
		}
	}
}

func opened(t testing.TB, f *fs.FS, path string) *journal.Journal {
	t.Helper()
	j, err := journal.Open(f, path)
	if err != nil || j == nil {
		t.Fatalf("Open of %s: %v, %v", path, j, err)
	}
	return j
}

// refused checks that an error wraps just one of api's, want.
func refused(t testing.TB, what string, err error, want api.Err) {
	t.Helper()
	var e api.Err
	if !errors.As(err, &e) || e != want || err.Error() == "" {
		t.Errorf("%s: %v, want %v", what, err, want)
	}
	for k := api.ErrRange; k <= api.ErrLine; k++ {
		if errors.Is(err, k) != (k == want) {
			t.Errorf("%s: %v, want %v", what, err, want)
		}
	}
}

// content answers the bytes of a file.
func content(t testing.TB, f *fs.FS, path string) []byte {
	t.Helper()
	fd, err := f.Open(path)
	well(t, err)
	n, err := f.Size(fd)
	well(t, err)
	b, err := f.Read(fd, 0, n)
	well(t, err, f.Close(fd))
	return b
}

// lay lets the file at path, which may be there already, hold just b.
func lay(t testing.TB, f *fs.FS, path string, b []byte) {
	t.Helper()
	if err := f.Create(path); err != nil && !errors.Is(err, api.ErrExists) {
		t.Fatal(err)
	}
	fd, err := f.Open(path)
	well(t, err, f.Truncate(fd, 0))
	for at := 0; at < len(b); at += api.MaxWrite {
		well(t, f.Write(fd, at, b[at:min(at+api.MaxWrite, len(b))]))
	}
	well(t, f.Close(fd))
}

// holds checks that the journal, and the file at path, has just these records.
func holds(t testing.TB, f *fs.FS, path string, j *journal.Journal, l [][]byte) {
	t.Helper()
	all := stream(l...)
	if got := j.Records(); !same(got, l) {
		t.Errorf("%d records, want %d, or others: %.60q, want %.60q", len(got), len(l), got, l)
	}
	if j.Size() != len(all) {
		t.Errorf("Size %d, want %d", j.Size(), len(all))
	}
	if b := content(t, f, path); !bytes.Equal(b, all) {
		t.Errorf("the file has %d bytes, want %d, or others: %.60q, want %.60q", len(b), len(all), b, all)
	}
}
