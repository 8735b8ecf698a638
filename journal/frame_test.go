package journal_test

import (
	"bytes"
	"errors"
	"slices"
	"testing"

	"lychgate/api"
	"lychgate/crc"
	"lychgate/journal"
)

// P10.1: the bytes of a record, one by one.
func TestFrameKnown(t *testing.T) {
	for _, c := range []struct {
		b    []byte
		want string
	}{
		{nil, "\x00\x00\x00\x00\x1c\xdf\x44\x21"},
		{[]byte{}, "\x00\x00\x00\x00\x1c\xdf\x44\x21"},
		{[]byte("a"), "\x01\x00\x00\x00\x63\x8f\xf7\xc1a"},
		{[]byte("123456789"), "\x09\x00\x00\x00\xe2\x61\x1c\xa5123456789"},
	} {
		if r, err := journal.Frame(c.b); string(r) != c.want || err != nil {
			t.Errorf("Frame(%q) is %q, %v, want %q", c.b, r, err, c.want)
		}
	}
}

// P10.1: all lengths that may be, or that are next to where a byte of the
// length changes.
func TestFrameLengths(t *testing.T) {
	for n := range 4089 {
		b := filled(n, n)
		r, err := journal.Frame(b)
		if err != nil || !bytes.Equal(r, framed(b)) {
			t.Fatalf("Frame of %d bytes: %.40q, %v", n, r, err)
		}
		s := crc.Sum([]byte{byte(n), byte(n >> 8), 0, 0}, b)
		if !bytes.Equal(r[:8], []byte{byte(n), byte(n >> 8), 0, 0, byte(s), byte(s >> 8), byte(s >> 16), byte(s >> 24)}) {
			t.Fatalf("Frame of %d bytes begins with %v", n, r[:8])
		}
	}
}

// P10.1: one byte more than a record may have, and many more.
func TestFrameBig(t *testing.T) {
	for _, n := range []int{4089, 4090, 4096, 4097, 5000, 1<<16 - 1, 1 << 16, 1<<16 + 5, 1 << 24, 1<<24 + 3} {
		r, err := journal.Frame(make([]byte, n))
		refused(t, "Frame", err, api.ErrBig)
		if len(r) > 0 || !errors.Is(err, api.ErrBig) {
			t.Errorf("Frame of %d bytes: %d bytes, %v", n, len(r), err)
		}
	}
}

// P0.3: Frame neither changes nor keeps what it is handed, and answers new
// memory.
func TestFrameShares(t *testing.T) {
	for _, n := range []int{0, 1, 7, 500, 4088, 4089} {
		all, b := roomy(filled(1, n), []byte("behind"))
		was := slices.Clone(all)
		r, _ := journal.Frame(b)
		s, _ := journal.Frame(b)
		want := slices.Clone(s)
		scribble(r)
		if !bytes.Equal(all, was) || !bytes.Equal(s, want) {
			t.Errorf("%d bytes: an answer shares memory", n)
		}
		scribble(all)
		if !bytes.Equal(s, want) {
			t.Errorf("%d bytes: what was handed in is kept", n)
		}
	}
}

// scans checks what Scan answers.
func scans(t *testing.T, what string, b []byte, want [][]byte) {
	t.Helper()
	was := slices.Clone(b)
	l, n := journal.Scan(b)
	if !same(l, want) || n != len(stream(want...)) {
		t.Errorf("%s: Scan(%.60q) is %d records of %d bytes, want %d of %d, or others", what, b, len(l), n, len(want), len(stream(want...)))
	}
	if !bytes.Equal(b, was) {
		t.Errorf("%s: Scan changed its bytes", what)
	}
}

// P10.1: what Frame makes, Scan finds: one record, and several.
func TestScanWhole(t *testing.T) {
	l := samples()
	for i := range l {
		r, err := journal.Frame(l[i])
		well(t, err)
		scans(t, "one", r, l[i:i+1])
		for k := i; k <= len(l); k++ {
			scans(t, "several", stream(l[i:k]...), l[i:k])
		}
	}
	many := make([][]byte, 3000)
	scans(t, "empty ones", stream(many...), many)
	for n := range 4089 {
		scans(t, "each length", framed(filled(n, n)), [][]byte{filled(n, n)})
	}
}

func TestScanNothing(t *testing.T) {
	scans(t, "nil", nil, nil)
	for n := range 20 {
		scans(t, "zeros", make([]byte, n), nil)
		scans(t, "ones", bytes.Repeat([]byte{255}, n), nil)
		scans(t, "text", []byte("no record at all, no record")[:n], nil)
	}
	scans(t, "a sector of zeros", make([]byte, 512), nil)
}

// P10.1: bytes that end anywhere: within a length, a sum, or bytes.
func TestScanFronts(t *testing.T) {
	l := samples()
	all := stream(l...)
	k, at := 0, 0
	for n := range len(all) {
		if k < len(l) && n == at+8+len(l[k]) {
			k, at = k+1, n
		}
		if got, size := journal.Scan(all[:n]); !same(got, l[:k]) || size != at {
			t.Fatalf("%d of %d bytes: %d records of %d bytes, want %d of %d", n, len(all), len(got), size, k, at)
		}
	}
}

// P10.1: whatever is other than it was, in any byte, ends it there.
func TestScanChanged(t *testing.T) {
	l := [][]byte{[]byte("one"), nil, filled(1, 70), {0}, []byte("end")}
	all := stream(l...)
	k, end := 0, 0
	for i := range all {
		for i >= end+8+len(l[k]) {
			k, end = k+1, end+8+len(l[k])
		}
		for x := 1; x < 256; x++ {
			b := slices.Clone(all)
			b[i] ^= byte(x)
			scans(t, "a byte changed", b, l[:k])
		}
	}
}

// P10.1: lengths that are not those of the bytes, with the sum as it was.
func TestScanWrongLength(t *testing.T) {
	l := [][]byte{[]byte("ahead"), filled(4, 40)}
	for _, n := range []uint32{0, 1, 39, 41, 48, 51, 52, 255, 256 + 40, 1<<16 + 40, 1<<24 + 40, 1<<31 - 1, 1 << 31, 1<<31 + 40, 1<<32 - 40, 1<<32 - 8, 1<<32 - 1} {
		b := stream(append(l, []byte("end"))...)
		for i := range 4 {
			b[13+i] = byte(n >> (8 * i))
		}
		scans(t, "a wrong length", b, l[:1])
	}
}

// P10.1: lengths of more bytes than there are, or than a record may have, with
// the sum of just that length and the bytes.
func TestScanLongLength(t *testing.T) {
	for _, n := range []uint32{4, 11, 12, 4088, 4089, 1 << 16, 1<<31 - 1, 1 << 31, 1<<32 - 1} {
		head := []byte{byte(n), byte(n >> 8), byte(n >> 16), byte(n >> 24)}
		for _, b := range [][]byte{nil, []byte("abc")} {
			s := crc.Sum(head, b)
			r := slices.Concat(head, []byte{byte(s), byte(s >> 8), byte(s >> 16), byte(s >> 24)}, b)
			scans(t, "a long length", r, nil)
			scans(t, "a long length", append(framed([]byte("ahead")), r...), [][]byte{[]byte("ahead")})
		}
	}
	for _, n := range []int{4089, 4090, 5000, 1 << 16, 1<<24 + 1} {
		b := framed(make([]byte, n))
		scans(t, "too big", b, nil)
		scans(t, "too big", append(framed(nil), b...), [][]byte{nil})
	}
}

// P10.1: sums of other things than the length and the bytes.
func TestScanWrongSum(t *testing.T) {
	b := filled(5, 30)
	head := []byte{30, 0, 0, 0}
	s := crc.Sum(head, b)
	for _, sum := range []uint32{0, 1, ^uint32(0), s + 1, s - 1, ^s, s<<8 | s>>24, s<<16 | s>>16, crc.Sum(b), crc.Sum(head), crc.Sum(b, head), crc.Sum(head, b, []byte{0}), crc.Sum(head, b[1:]), crc.Sum([]byte{0, 0, 0, 30}, b)} {
		r := slices.Concat(head, []byte{byte(sum), byte(sum >> 8), byte(sum >> 16), byte(sum >> 24)}, b)
		scans(t, "a wrong sum", r, nil)
		scans(t, "a wrong sum", slices.Concat(framed(b), r, framed(b)), [][]byte{b})
	}
	scans(t, "the highest byte first", []byte{0, 0, 0, 1, 0xe5, 0x8c, 0x97, 0x92, 'a'}, nil)
}

// P10.1: bytes behind the last whole record, among them records that are whole
// again.
func TestScanBehind(t *testing.T) {
	l := [][]byte{[]byte("one"), filled(6, 600)}
	all := stream(l...)
	for _, behind := range [][]byte{{0}, {1}, make([]byte, 7), make([]byte, 8), make([]byte, 1000), bytes.Repeat([]byte{255}, 100), []byte("junk behind"), framed([]byte("cut"))[:10], append([]byte{0}, framed([]byte("late"))...), append(framed([]byte("cut"))[:8], framed([]byte("late"))...)} {
		scans(t, "behind", append(slices.Clone(all), behind...), l)
	}
}

// P0.3, P0.5: Scan reads no byte of the spare room, though a record be whole
// with it.
func TestScanSpareRoom(t *testing.T) {
	r := framed([]byte("record"))
	for n := range r {
		all, b := roomy(r[:n], r[n:])
		was := slices.Clone(all)
		scans(t, "spare room", b, nil)
		if !bytes.Equal(all, was) {
			t.Error("the spare room is changed")
		}
	}
	all, b := roomy(r, r)
	scans(t, "spare room", b, [][]byte{[]byte("record")})
	if !bytes.Equal(all, slices.Concat([]byte("ahead"), r, r)) {
		t.Error("the spare room is changed")
	}
}

// P0.3: what Scan answers hangs neither on the bytes nor on another answer, and
// no record of it on another one, the spare room too.
func TestScanShares(t *testing.T) {
	want := samples()
	all := stream(want...)
	was := slices.Clone(all)
	for i := range want {
		l, _ := journal.Scan(all)
		other, _ := journal.Scan(all)
		scribble(l[i])
		for k := range l {
			if k != i && !bytes.Equal(l[k], want[k]) {
				t.Errorf("records %d and %d share memory", i, k)
			}
		}
		clear(l[:cap(l)])
		if !same(other, want) || !bytes.Equal(all, was) {
			t.Errorf("record %d shares memory with the bytes or another answer", i)
		}
	}
	l, _ := journal.Scan(all)
	scribble(all)
	if !same(l, want) {
		t.Error("the bytes are kept")
	}
}
