package crc_test

import (
	"bytes"
	"hash/crc32"
	"math"
	"slices"
	"testing"

	"lychgate/crc"
)

// noise makes n bytes without a pattern, the same ones each time.
func noise(n int) []byte {
	b := make([]byte, n)
	x := uint32(1)
	for i := range b {
		x = x*1664525 + 1013904223
		b[i] = byte(x >> 24)
	}
	return b
}

func TestKnownSums(t *testing.T) {
	for _, c := range []struct {
		b    []byte
		want uint32
	}{
		{nil, 0},
		{[]byte{}, 0},
		{[]byte{0}, 0xd202ef8d},
		{[]byte{255}, 0xff000000},
		{[]byte("a"), 0xe8b7be43},
		{[]byte("abc"), 0x352441c2},
		{[]byte("123456789"), 0xcbf43926},
		{[]byte("The quick brown fox jumps over the lazy dog"), 0x414fa339},
		{make([]byte, 4), 0x2144df1c},
		{bytes.Repeat([]byte{255}, 4), 0xffffffff},
		{make([]byte, 32), 0x190a55ad},
		{bytes.Repeat([]byte{255}, 32), 0xff6cab0b},
	} {
		if got := crc.Sum(c.b); got != c.want {
			t.Errorf("Sum(%q) is %08x, want %08x", c.b, got, c.want)
		}
		if got := crc.More(0, c.b); got != c.want {
			t.Errorf("More(0, %q) is %08x, want %08x", c.b, got, c.want)
		}
	}
}

func TestSumOfNothing(t *testing.T) {
	for _, parts := range [][][]byte{nil, {}, {nil}, {{}}, {nil, {}, nil}} {
		if got := crc.Sum(parts...); got != 0 {
			t.Errorf("Sum of %d parts without bytes is %08x", len(parts), got)
		}
	}
	if got := crc.Sum(); got != 0 {
		t.Errorf("Sum() is %08x", got)
	}
}

// TestEveryByte goes through all bytes, ahead of and behind one another.
func TestEveryByte(t *testing.T) {
	for one := range 256 {
		for two := range 256 {
			b := []byte{byte(one), byte(two)}
			if got, want := crc.Sum(b), crc32.ChecksumIEEE(b); got != want {
				t.Fatalf("Sum(%v) is %08x, want %08x", b, got, want)
			}
		}
		b := []byte{byte(one)}
		if got, want := crc.Sum(b), crc32.ChecksumIEEE(b); got != want {
			t.Fatalf("Sum(%v) is %08x, want %08x", b, got, want)
		}
	}
}

func TestLengths(t *testing.T) {
	all := noise(5000)
	for n := range all {
		if got, want := crc.Sum(all[:n]), crc32.ChecksumIEEE(all[:n]); got != want {
			t.Fatalf("Sum of %d bytes is %08x, want %08x", n, got, want)
		}
	}
	long := noise(1 << 22)
	if got, want := crc.Sum(long), crc32.ChecksumIEEE(long); got != want {
		t.Errorf("Sum of %d bytes is %08x, want %08x", len(long), got, want)
	}
}

// TestParts cuts the same bytes at all pairs of places.
func TestParts(t *testing.T) {
	b := noise(60)
	want := crc32.ChecksumIEEE(b)
	for i := range len(b) + 1 {
		for j := i; j <= len(b); j++ {
			one, two, three := b[:i], b[i:j], b[j:]
			if got := crc.Sum(one, nil, two, []byte{}, three); got != want {
				t.Errorf("Sum of %d, %d and %d bytes is %08x, want %08x", len(one), len(two), len(three), got, want)
			}
			if got := crc.More(crc.More(crc.Sum(one), two), three); got != want {
				t.Errorf("More of %d, %d and %d bytes is %08x, want %08x", len(one), len(two), len(three), got, want)
			}
		}
	}
	if got := crc.Sum(slices.Collect(slices.Chunk(b, 1))...); got != want {
		t.Errorf("Sum of single bytes is %08x, want %08x", got, want)
	}
}

func TestOrderCounts(t *testing.T) {
	one, two := []byte("one"), []byte("two")
	if crc.Sum(one, two) != crc32.ChecksumIEEE([]byte("onetwo")) || crc.Sum(two, one) != crc32.ChecksumIEEE([]byte("twoone")) {
		t.Error("parts aren't taken in their order")
	}
}

// TestMoreOfAnySum: each number is the sum of something.
func TestMoreOfAnySum(t *testing.T) {
	b := noise(70)
	sums := []uint32{0, 1, 0x7fffffff, 0x80000000, 0xcbf43926, 0xedb88320, math.MaxUint32}
	for k := range 32 {
		sums = append(sums, 1<<k, ^uint32(1<<k))
	}
	for _, sum := range sums {
		for n := range b {
			if got, want := crc.More(sum, b[:n]), crc32.Update(sum, crc32.IEEETable, b[:n]); got != want {
				t.Errorf("More(%08x, %d bytes) is %08x, want %08x", sum, n, got, want)
			}
		}
		if crc.More(sum, nil) != sum || crc.More(sum, []byte{}) != sum {
			t.Errorf("More(%08x, nothing) is another sum", sum)
		}
	}
}

func TestArgumentsStay(t *testing.T) {
	room := noise(100)
	parts := [][]byte{room[:10], nil, room[20:50], room[90:], room[:0]}
	given, want := slices.Clone(room), crc32.ChecksumIEEE(slices.Concat(parts[:3]...))
	for range 2 {
		if got := crc.Sum(parts[:3]...); got != want {
			t.Errorf("Sum is %08x, want %08x", got, want)
		}
		crc.More(5, room[:10])
	}
	if !bytes.Equal(room, given) {
		t.Error("bytes were changed")
	}
	for k, at := range []struct{ from, to int }{{0, 10}, {0, 0}, {20, 50}, {90, 100}, {0, 0}} {
		if !bytes.Equal(parts[k], given[at.from:at.to]) || (parts[k] == nil) != (k == 1) {
			t.Errorf("part %d was changed", k)
		}
	}
	copy(room, make([]byte, 50))
	if got := crc.Sum(parts[:3]...); got != crc32.ChecksumIEEE(make([]byte, 40)) {
		t.Errorf("Sum of changed parts is %08x", got)
	}
}

func FuzzAgainstLibrary(f *testing.F) {
	f.Add([]byte("123456789"), 4, uint32(0))
	f.Add([]byte{}, 0, uint32(7))
	f.Fuzz(func(t *testing.T, b []byte, cut int, sum uint32) {
		cut = max(0, min(cut, len(b)))
		if got, want := crc.Sum(b[:cut], b[cut:]), crc32.ChecksumIEEE(b); got != want {
			t.Errorf("Sum is %08x, want %08x", got, want)
		}
		if got, want := crc.More(sum, b), crc32.Update(sum, crc32.IEEETable, b); got != want {
			t.Errorf("More is %08x, want %08x", got, want)
		}
	})
}
