package blockdev_test

import (
	"bytes"
	"errors"
	"math"
	"slices"
	"testing"

	"lychgate/api"
	"lychgate/blockdev"
)

func filled(c byte) []byte { return bytes.Repeat([]byte{c}, api.Sector) }

// row makes a disk of so many sectors on which nothing lies yet.
func row(t *testing.T, sectors int) *blockdev.Disk {
	t.Helper()
	d := blockdev.New(sectors)
	if d == nil {
		t.Fatalf("New(%d) is nil", sectors)
	}
	return d
}

func put(t *testing.T, d *blockdev.Disk, i int, c byte) {
	t.Helper()
	if err := d.Write(i, filled(c)); err != nil {
		t.Fatalf("Write(%d): %v", i, err)
	}
}

// holds checks that the disk has just these sectors, each full of one byte.
func holds(t *testing.T, d *blockdev.Disk, want ...byte) {
	t.Helper()
	if d.Len() != len(want) {
		t.Fatalf("Len %d, want %d", d.Len(), len(want))
	}
	for i, c := range want {
		b, err := d.Read(i)
		if err != nil || !bytes.Equal(b, filled(c)) {
			t.Errorf("sector %d: %v, error %v, want all %d", i, b, err, c)
		}
	}
}

func counts(t *testing.T, d *blockdev.Disk, writes, waiting int, dead bool) {
	t.Helper()
	if d.Writes() != writes || d.Waiting() != waiting || d.Dead() != dead {
		t.Errorf("Writes %d, Waiting %d, Dead %v; want %d, %d, %v", d.Writes(), d.Waiting(), d.Dead(), writes, waiting, dead)
	}
}

func TestNewBounds(t *testing.T) {
	for _, n := range []int{math.MinInt, -4096, -1, 0, 4097, 1 << 32, math.MaxInt} {
		if blockdev.New(n) != nil {
			t.Errorf("New(%d) is not nil", n)
		}
	}
	for _, n := range []int{1, 2, 47, 128, 4095, 4096} {
		d := row(t, n)
		holds(t, d, make([]byte, n)...)
		counts(t, d, 0, 0, false)
	}
}

func TestReadRange(t *testing.T) {
	d := row(t, 3)
	put(t, d, 2, 7)
	for _, i := range []int{math.MinInt, -1, 3, 4, 4096, math.MaxInt} {
		if b, err := d.Read(i); !errors.Is(err, api.ErrRange) || len(b) != 0 {
			t.Errorf("Read(%d): %v, %v", i, b, err)
		}
	}
}

func TestReadAnswersCopies(t *testing.T) {
	d := row(t, 2)
	for _, flushed := range []bool{false, true} {
		put(t, d, 0, 5)
		if flushed {
			d.Flush()
		}
		one, _ := d.Read(0)
		two, _ := d.Read(0)
		clear(one[:cap(one)])
		if !bytes.Equal(two, filled(5)) {
			t.Error("two answers share memory")
		}
		holds(t, d, 5, 0)
		holds(t, d.Crash([]bool{true}), 5, 0)
	}
	blank, _ := d.Read(1)
	copy(blank, filled(9))
	holds(t, d, 5, 0)
	holds(t, row(t, 1), 0)
}

func TestWriteRange(t *testing.T) {
	d := row(t, 2)
	put(t, d, 1, 3)
	d.Limit(1)
	for _, i := range []int{math.MinInt, -1, 2, 3, 4096, math.MaxInt} {
		for _, n := range []int{0, api.Sector} {
			if err := d.Write(i, make([]byte, n)); !errors.Is(err, api.ErrRange) {
				t.Errorf("Write(%d, %d bytes): %v", i, n, err)
			}
		}
	}
	for _, n := range []int{0, 1, 511, 513, 1024} {
		if err := d.Write(1, make([]byte, n)); !errors.Is(err, api.ErrRange) {
			t.Errorf("Write(1, %d bytes): %v", n, err)
		}
	}
	if !errors.Is(d.Write(1, nil), api.ErrRange) {
		t.Error("Write(1, nil) is taken")
	}
	holds(t, d, 0, 3)
	counts(t, d, 1, 1, false)
}

func TestWriteLeavesItsArgument(t *testing.T) {
	d := row(t, 1)
	room := slices.Repeat([]byte{6}, 2*api.Sector)
	b := room[:api.Sector]
	if d.Write(0, b) != nil {
		t.Fatal("refused")
	}
	d.Flush()
	if !bytes.Equal(room, slices.Repeat([]byte{6}, 2*api.Sector)) {
		t.Error("Write changed what it was handed")
	}
	clear(room)
	holds(t, d, 6)
	if d.Write(0, b) != nil {
		t.Fatal("refused")
	}
	b[0] = 1
	holds(t, d, 0)
	holds(t, d.Crash([]bool{true}), 0)
}

func TestWritesAreSeenAndCounted(t *testing.T) {
	d := row(t, 3)
	put(t, d, 0, 1)
	put(t, d, 2, 2)
	put(t, d, 0, 3)
	holds(t, d, 3, 0, 2)
	counts(t, d, 3, 3, false)
	d.Flush()
	holds(t, d, 3, 0, 2)
	counts(t, d, 3, 0, false)
	d.Flush()
	put(t, d, 2, 2)
	holds(t, d, 3, 0, 2)
	counts(t, d, 4, 1, false)
}

func TestEveryByteComesBack(t *testing.T) {
	d := row(t, 1)
	b := make([]byte, api.Sector)
	for i := range b {
		b[i] = byte(i*7 + i/256)
	}
	if d.Write(0, b) != nil {
		t.Fatal("refused")
	}
	for range 2 {
		if got, err := d.Read(0); err != nil || !bytes.Equal(got, b) {
			t.Errorf("%v, %v", got, err)
		}
		d.Flush()
	}
}

func TestLimit(t *testing.T) {
	for _, n := range []int{0, 1, 2, 5} {
		d := row(t, 1)
		put(t, d, 0, 100)
		d.Limit(n)
		for k := range n {
			counts(t, d, 1+k, 1, false)
			d.Flush()
			put(t, d, 0, byte(k))
		}
		last := byte(100)
		if n > 0 {
			last = byte(n - 1)
		}
		counts(t, d, 1+n, 1, true)
		put(t, d, 0, 200)
		holds(t, d, last)
		counts(t, d, 1+n, 1, true)
	}
}

func TestWithoutLimit(t *testing.T) {
	for _, n := range []int{-1, -2, math.MinInt, math.MaxInt} {
		d := row(t, 1)
		d.Limit(1)
		d.Limit(n)
		for k := range 100 {
			put(t, d, 0, byte(k))
		}
		counts(t, d, 100, 100, false)
	}
}

func TestLaterLimitCounts(t *testing.T) {
	d := row(t, 1)
	d.Limit(2)
	put(t, d, 0, 1)
	d.Limit(2)
	put(t, d, 0, 2)
	counts(t, d, 2, 2, false)
	put(t, d, 0, 3)
	counts(t, d, 3, 3, true)
}

func TestDeadDisk(t *testing.T) {
	d := row(t, 2)
	put(t, d, 0, 1)
	d.Flush()
	put(t, d, 0, 2)
	d.Limit(0)
	for _, n := range []int{-1, 0, 1, math.MaxInt, math.MinInt} {
		d.Limit(n)
		d.Flush()
		put(t, d, 1, 9)
		holds(t, d, 2, 0)
		counts(t, d, 2, 1, true)
	}
	for _, i := range []int{-1, 2} {
		if !errors.Is(d.Write(i, filled(1)), api.ErrRange) {
			t.Errorf("a dead disk takes sector %d", i)
		}
		if b, err := d.Read(i); !errors.Is(err, api.ErrRange) || len(b) != 0 {
			t.Errorf("a dead disk reads sector %d", i)
		}
	}
	if !errors.Is(d.Write(0, filled(1)[1:]), api.ErrRange) || !errors.Is(d.Write(0, nil), api.ErrRange) {
		t.Error("a dead disk takes a short sector")
	}
	holds(t, d.Crash(nil), 1, 0)
	holds(t, d.Crash([]bool{true, true}), 2, 0)
}

// TestCrashPicks goes through all ways in which four waiting writes may last.
func TestCrashPicks(t *testing.T) {
	d := row(t, 3)
	put(t, d, 0, 1)
	put(t, d, 2, 2)
	d.Flush()
	waiting := []struct {
		at int
		c  byte
	}{{1, 3}, {0, 4}, {1, 5}, {2, 6}}
	for _, w := range waiting {
		put(t, d, w.at, w.c)
	}
	for n := range 7 {
		for bits := range 1 << n {
			picks := make([]bool, n)
			want := []byte{1, 0, 2}
			for k := range picks {
				picks[k] = bits>>k&1 == 1
				if picks[k] && k < len(waiting) {
					want[waiting[k].at] = waiting[k].c
				}
			}
			given := slices.Clone(picks)
			e := d.Crash(picks)
			holds(t, e, want...)
			counts(t, e, 0, 0, false)
			holds(t, e.Crash(nil), want...)
			if !slices.Equal(picks, given) {
				t.Error("Crash changed the picks")
			}
		}
	}
	holds(t, d, 4, 5, 6)
	counts(t, d, 6, 4, false)
}

func TestCrashedDiskIsAnother(t *testing.T) {
	d := row(t, 2)
	put(t, d, 0, 1)
	d.Flush()
	d.Limit(1)
	put(t, d, 1, 2)
	e := d.Crash([]bool{true})
	counts(t, d, 2, 1, true)
	counts(t, e, 0, 0, false)
	put(t, e, 0, 3)
	put(t, e, 1, 4)
	e.Flush()
	put(t, e, 0, 5)
	counts(t, e, 3, 1, false)
	holds(t, e, 5, 4)
	holds(t, d, 1, 2)
	holds(t, d.Crash(nil), 1, 0)
	holds(t, d.Crash([]bool{true}), 1, 2)
}

func TestCrashOfLivingDiskLeavesItsLimit(t *testing.T) {
	d := row(t, 1)
	d.Limit(2)
	put(t, d, 0, 1)
	e := d.Crash([]bool{true})
	put(t, d, 0, 2)
	d.Flush()
	counts(t, d, 2, 2, true)
	for range 5 {
		put(t, e, 0, 7)
	}
	holds(t, d, 2)
	holds(t, e, 7)
	counts(t, e, 5, 5, false)
}

func TestNilDisk(t *testing.T) {
	var d *blockdev.Disk
	d.Flush()
	d.Limit(-1)
	d.Limit(3)
	counts(t, d, 0, 0, true)
	if d.Len() != 0 || d.Crash(nil) != nil || d.Crash([]bool{true}) != nil {
		t.Error("a nil disk is something")
	}
	for _, i := range []int{math.MinInt, -1, 0, 1, math.MaxInt} {
		if b, err := d.Read(i); !errors.Is(err, api.ErrRange) || len(b) != 0 {
			t.Errorf("Read(%d): %v, %v", i, b, err)
		}
		if err := d.Write(i, filled(1)); !errors.Is(err, api.ErrRange) {
			t.Errorf("Write(%d): %v", i, err)
		}
	}
}

// model does what the chapter says in the plainest way: it keeps all writes
// and looks through them.
type model struct {
	sectors int
	done    []struct {
		at int
		c  byte
	}
	flushed int // of done
	writes  int
	left    int // below 0: no limit
}

func (m *model) write(i int, c byte) {
	if m.left == 0 {
		return
	}
	m.done = append(m.done, struct {
		at int
		c  byte
	}{i, c})
	m.writes++
	m.left = max(m.left-1, -1)
}

func (m *model) flush() {
	if m.left != 0 {
		m.flushed = len(m.done)
	}
}

func (m *model) limit(n int) {
	if m.left != 0 {
		m.left = max(n, -1)
	}
}

func (m *model) crash(picks []bool) *model {
	e := &model{sectors: m.sectors, left: -1}
	for k, w := range m.done {
		if p := k - m.flushed; p < 0 || p < len(picks) && picks[p] {
			e.done = append(e.done, w)
		}
	}
	e.flushed = len(e.done)
	return e
}

func (m *model) content() []byte {
	l := make([]byte, m.sectors)
	for _, w := range m.done {
		l[w.at] = w.c
	}
	return l
}

// play lets disk and model do what the bytes say.
func play(t *testing.T, script []byte) {
	next := func() int {
		if len(script) == 0 {
			return 0
		}
		c := script[0]
		script = script[1:]
		return int(c)
	}
	sectors := 1 + next()%6
	d, m := row(t, sectors), &model{sectors: sectors, left: -1}
	for len(script) > 0 && !t.Failed() {
		switch k := next() % 16; {
		case k < 10:
			i, c := next()%sectors, byte(next())
			put(t, d, i, c)
			m.write(i, c)
		case k < 12:
			d.Flush()
			m.flush()
		case k < 14:
			n := next()%12 - 2
			d.Limit(n)
			m.limit(n)
		default:
			picks := make([]bool, next()%8)
			for p := range picks {
				picks[p] = next()%2 == 1
			}
			e, f := d.Crash(picks), m.crash(picks)
			holds(t, d, m.content()...)
			counts(t, d, m.writes, len(m.done)-m.flushed, m.left == 0)
			d, m = e, f
		}
		holds(t, d, m.content()...)
		counts(t, d, m.writes, len(m.done)-m.flushed, m.left == 0)
	}
}

func TestAgainstModel(t *testing.T) {
	x := uint32(1)
	for range 200 {
		script := make([]byte, 300)
		for i := range script {
			x = x*1664525 + 1013904223
			script[i] = byte(x >> 24)
		}
		play(t, script)
		if t.Failed() {
			t.Fatalf("script %v", script)
		}
	}
}

func FuzzAgainstModel(f *testing.F) {
	f.Add([]byte{2, 0, 1, 5, 12, 4, 0, 1, 6, 15, 1, 1})
	f.Fuzz(play)
}
