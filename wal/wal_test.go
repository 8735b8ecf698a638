package wal_test

import (
	"bytes"
	"errors"
	"math"
	"slices"
	"strings"
	"testing"

	"lychgate/api"
	"lychgate/blockdev"
	"lychgate/crc"
	"lychgate/wal"
)

func filled(c byte) []byte { return bytes.Repeat([]byte{c}, api.Sector) }

func open(t *testing.T, d *blockdev.Disk) *wal.Log {
	t.Helper()
	l, err := wal.Open(d)
	if err != nil || l == nil {
		t.Fatalf("Open: %v, error %v", l, err)
	}
	return l
}

// fresh opens a log on a disk of zeros.
func fresh(t *testing.T, sectors int) (*blockdev.Disk, *wal.Log) {
	t.Helper()
	d := blockdev.New(sectors)
	return d, open(t, d)
}

func put(t *testing.T, l *wal.Log, i int, c byte) {
	t.Helper()
	if err := l.Put(i, filled(c)); err != nil {
		t.Fatalf("Put(%d): %v", i, err)
	}
}

func sync(t *testing.T, l *wal.Log) {
	t.Helper()
	if err := l.Sync(); err != nil {
		t.Fatalf("Sync: %v", err)
	}
}

// reads checks one sector, and how many wait.
func reads(t *testing.T, l *wal.Log, i int, c byte, waiting int) {
	t.Helper()
	b, err := l.Read(i)
	if err != nil || !bytes.Equal(b, filled(c)) {
		t.Errorf("sector %d: %v, error %v, want all %d", i, b, err, c)
	}
	if l.Waiting() != waiting {
		t.Errorf("Waiting %d, want %d", l.Waiting(), waiting)
	}
}

// home tells what all home sectors of a disk hold.
func home(d *blockdev.Disk) string {
	var all []byte
	for i := api.LogSectors; i < d.Len(); i++ {
		b, _ := d.Read(i)
		all = append(all, b...)
	}
	return string(all)
}

// seen tells what the log says that they hold.
func seen(t *testing.T, l *wal.Log, sectors int) string {
	t.Helper()
	var all []byte
	for i := api.LogSectors; i < sectors; i++ {
		b, err := l.Read(i)
		if err != nil || len(b) != api.Sector {
			t.Fatalf("sector %d: %d bytes, error %v", i, len(b), err)
		}
		all = append(all, b...)
	}
	return string(all)
}

// subsets calls f with each way to pick of n.
func subsets(n int, f func(picks []bool)) {
	for bits := range 1 << n {
		picks := make([]bool, n)
		for k := range picks {
			picks[k] = bits>>k&1 == 1
		}
		f(picks)
	}
}

// crashes calls f with each disk that a crash may leave.
func crashes(d *blockdev.Disk, f func(e *blockdev.Disk)) {
	subsets(d.Waiting(), func(picks []bool) { f(d.Crash(picks)) })
}

// noise makes n bytes without a pattern, others for each seed.
func noise(seed, n int) []byte {
	b := make([]byte, n)
	x := uint32(seed)*2654435761 + 1
	for i := range b {
		x = x*1664525 + 1013904223
		b[i] = byte(x >> 24)
	}
	return b
}

func TestOpenSmall(t *testing.T) {
	small := []*blockdev.Disk{nil}
	for _, n := range []int{1, 2, 47, 48, 49, 127} {
		small = append(small, blockdev.New(n))
	}
	for _, n := range []int{1, 127, 128, 4096} {
		dead := blockdev.New(n)
		dead.Limit(0)
		small = append(small, dead)
	}
	for k, d := range small {
		if l, err := wal.Open(d); !errors.Is(err, api.ErrSmall) || l != nil {
			t.Errorf("disk %d of %d sectors, dead %v: %v, error %v", k, d.Len(), d.Dead(), l, err)
		}
	}
	for _, n := range []int{128, 129, 4096} {
		d, l := fresh(t, n)
		put(t, l, n-1, 7)
		sync(t, l)
		reads(t, open(t, d.Crash(nil)), n-1, 7, 0)
	}
}

func TestOpenThatDies(t *testing.T) {
	d := torn(t)
	all := writesOfOpen(t, d)
	for cut := range all + 3 {
		e := d.Crash(nil)
		e.Limit(cut)
		l, err := wal.Open(e)
		if e.Dead() != (cut <= all) {
			t.Fatalf("cut %d of %d: dead %v", cut, all, e.Dead())
		}
		if e.Dead() && (!errors.Is(err, api.ErrSmall) || l != nil) || !e.Dead() && (err != nil || l == nil) {
			t.Errorf("cut %d of %d: %v, error %v", cut, all, l, err)
		}
	}
}

func TestRange(t *testing.T) {
	d, l := fresh(t, 130)
	put(t, l, 129, 3)
	for _, i := range []int{math.MinInt, -1, 0, 1, 46, 47, 130, 131, 4096, 65536 + 60, 1<<32 + 60, math.MaxInt} {
		if b, err := l.Read(i); !errors.Is(err, api.ErrRange) || len(b) != 0 {
			t.Errorf("Read(%d): %v, %v", i, b, err)
		}
		for _, n := range []int{0, api.Sector} {
			if err := l.Put(i, make([]byte, n)); !errors.Is(err, api.ErrRange) {
				t.Errorf("Put(%d, %d bytes): %v", i, n, err)
			}
		}
	}
	for _, n := range []int{0, 1, 511, 513, 1024} {
		if err := l.Put(129, make([]byte, n)); !errors.Is(err, api.ErrRange) {
			t.Errorf("Put(129, %d bytes): %v", n, err)
		}
	}
	if !errors.Is(l.Put(129, nil), api.ErrRange) {
		t.Error("Put(129, nil) is taken")
	}
	reads(t, l, 129, 3, 1)
	reads(t, l, 128, 0, 1)
	reads(t, l, 48, 0, 1)
	if d.Writes() != 0 {
		t.Error("a Put that waits wrote")
	}
}

func TestPutIsSeenAtOnce(t *testing.T) {
	d, l := fresh(t, 128)
	reads(t, l, 48, 0, 0)
	put(t, l, 48, 1)
	reads(t, l, 48, 1, 1)
	put(t, l, 127, 2)
	put(t, l, 48, 3)
	reads(t, l, 48, 3, 2)
	reads(t, l, 127, 2, 2)
	put(t, l, 60, 0)
	reads(t, l, 60, 0, 3)
	if home(d) != home(blockdev.New(128)) {
		t.Error("what waits is at home")
	}
	sync(t, l)
	reads(t, l, 48, 3, 0)
	reads(t, l, 127, 2, 0)
	put(t, l, 48, 4)
	reads(t, l, 48, 4, 1)
	reads(t, open(t, d.Crash(nil)), 48, 3, 0)
}

func TestGroupError(t *testing.T) {
	d, l := fresh(t, 4096)
	for i := range api.MaxGroup {
		put(t, l, 4095-i*7, byte(i+1))
	}
	var last *wal.GroupError
	for _, i := range []int{48, 49, 4094, 48} {
		err := l.Put(i, filled(9))
		var g *wal.GroupError
		if !errors.As(err, &g) || g.N != 40 || g.Err != error(api.ErrFull) || !errors.Is(err, api.ErrFull) || errors.Is(err, api.ErrRange) || g == last {
			t.Errorf("Put(%d) beside 40: %v", i, err)
		} else if !strings.Contains(err.Error(), "40") {
			t.Errorf("Error is %q", err.Error())
		}
		last = g
		reads(t, l, i, 0, 40)
	}
	for _, i := range []int{47, 4096, -1} {
		var g *wal.GroupError
		if err := l.Put(i, filled(9)); !errors.Is(err, api.ErrRange) || errors.As(err, &g) {
			t.Errorf("Put(%d) beside 40: %v", i, err)
		}
	}
	if !errors.Is(l.Put(48, filled(9)[1:]), api.ErrRange) {
		t.Error("a short sector beside 40 isn't ErrRange")
	}
	for i := range api.MaxGroup {
		put(t, l, 4095-i*7, byte(i+101))
		reads(t, l, 4095-i*7, byte(i+101), 40)
	}
	sync(t, l)
	put(t, l, 48, 9)
	reads(t, l, 48, 9, 1)
	m := open(t, d.Crash(nil))
	for i := range api.MaxGroup {
		reads(t, m, 4095-i*7, byte(i+101), 0)
	}
}

func TestRoomComesBack(t *testing.T) {
	_, l := fresh(t, 128)
	put(t, l, 127, 1)
	l.Mark()
	for i := range 39 {
		put(t, l, 48+i, 2)
	}
	if !errors.Is(l.Put(100, filled(3)), api.ErrFull) {
		t.Error("a 41st waits")
	}
	l.Back()
	reads(t, l, 127, 1, 1)
	for i := range 39 {
		put(t, l, 60+i, 3)
	}
	if !errors.Is(l.Put(100, filled(3)), api.ErrFull) || l.Waiting() != 40 {
		t.Error("a 41st waits")
	}
}

func TestGroupErrorOfAnyKind(t *testing.T) {
	var none *wal.GroupError
	if none.Unwrap() != nil || none.Error() == "" {
		t.Error("a nil GroupError wraps something")
	}
	bare := &wal.GroupError{N: math.MinInt}
	if bare.Unwrap() != nil || bare.Error() == "" {
		t.Error("a bare GroupError wraps something")
	}
	other := errors.New("other")
	if g := (&wal.GroupError{N: 3, Err: other}); g.Unwrap() != other || !errors.Is(g, other) {
		t.Error("a GroupError wraps something else")
	}
	ring := &wal.GroupError{N: 1}
	ring.Err = ring
	if ring.Error() == "" {
		t.Error("no words")
	}
}

func TestBack(t *testing.T) {
	d, l := fresh(t, 128)
	put(t, l, 50, 1)
	put(t, l, 51, 1)
	l.Back()
	reads(t, l, 50, 0, 0)
	put(t, l, 50, 2)
	l.Mark()
	put(t, l, 50, 3)
	put(t, l, 51, 3)
	reads(t, l, 50, 3, 2)
	for range 2 {
		l.Back()
		reads(t, l, 50, 2, 1)
		reads(t, l, 51, 0, 1)
		put(t, l, 50, 4)
		put(t, l, 52, 4)
		reads(t, l, 50, 4, 2)
	}
	l.Mark()
	put(t, l, 53, 5)
	put(t, l, 52, 5)
	l.Back()
	reads(t, l, 50, 4, 2)
	reads(t, l, 52, 4, 2)
	reads(t, l, 53, 0, 2)
	sync(t, l)
	put(t, l, 50, 6)
	put(t, l, 54, 6)
	l.Back()
	reads(t, l, 50, 4, 0)
	reads(t, l, 54, 0, 0)
	m := open(t, d.Crash(nil))
	reads(t, m, 50, 4, 0)
	reads(t, m, 52, 4, 0)
	m.Back()
	reads(t, m, 50, 4, 0)
}

func TestMarkOfNothing(t *testing.T) {
	_, l := fresh(t, 128)
	put(t, l, 50, 1)
	l.Mark()
	sync(t, l)
	l.Mark()
	put(t, l, 50, 2)
	l.Back()
	reads(t, l, 50, 1, 0)
	sync(t, l)
	reads(t, l, 50, 1, 0)
}

func TestWhatIsBackedIsNotSynced(t *testing.T) {
	d, l := fresh(t, 128)
	put(t, l, 50, 1)
	l.Mark()
	put(t, l, 50, 2)
	put(t, l, 51, 2)
	l.Back()
	sync(t, l)
	m := open(t, d.Crash(nil))
	reads(t, m, 50, 1, 0)
	reads(t, m, 51, 0, 0)
}

func TestListsStay(t *testing.T) {
	d, l := fresh(t, 128)
	room := slices.Repeat([]byte{6}, 2*api.Sector)
	if l.Put(50, room[:api.Sector]) != nil {
		t.Fatal("refused")
	}
	l.Mark()
	clear(room)
	reads(t, l, 50, 6, 1)
	answers := func() {
		one, _ := l.Read(50)
		two, _ := l.Read(50)
		clear(one[:cap(one)])
		if !bytes.Equal(two, filled(6)) {
			t.Error("two answers share memory")
		}
		clear(two[:cap(two)])
	}
	answers()
	reads(t, l, 50, 6, 1)
	l.Back()
	reads(t, l, 50, 6, 1)
	sync(t, l)
	answers()
	reads(t, l, 50, 6, 0)
	reads(t, open(t, d.Crash(nil)), 50, 6, 0)
	copy(room, bytes.Repeat([]byte{8}, len(room)))
	if l.Put(51, room[:api.Sector]) != nil || l.Sync() != nil {
		t.Fatal("refused")
	}
	if !bytes.Equal(room, bytes.Repeat([]byte{8}, len(room))) {
		t.Error("Put or Sync changed what was handed in")
	}
}

func TestNilLog(t *testing.T) {
	var l *wal.Log
	l.Mark()
	l.Back()
	for _, i := range []int{math.MinInt, -1, 0, 48, 127, math.MaxInt} {
		if b, err := l.Read(i); !errors.Is(err, api.ErrRange) || len(b) != 0 {
			t.Errorf("Read(%d): %v, %v", i, b, err)
		}
		if !errors.Is(l.Put(i, filled(1)), api.ErrRange) || !errors.Is(l.Put(i, nil), api.ErrRange) {
			t.Errorf("Put(%d) isn't ErrRange", i)
		}
	}
	if !errors.Is(l.Sync(), api.ErrRange) || l.Waiting() != 0 {
		t.Error("a nil log is something")
	}
}

func TestLogThatWasNotOpened(t *testing.T) {
	l := &wal.Log{}
	l.Back()
	l.Mark()
	l.Back()
	if b, err := l.Read(50); err == nil || len(b) != 0 || l.Put(50, filled(1)) == nil || l.Waiting() != 0 || l.Sync() == nil {
		t.Error("a log without a disk holds something")
	}
}

func TestSyncOfNothing(t *testing.T) {
	d, l := fresh(t, 128)
	sync(t, l)
	put(t, l, 50, 1)
	sync(t, l)
	n := d.Writes()
	sync(t, l)
	if d.Writes()-n > 8 {
		t.Errorf("%d writes for nothing", d.Writes()-n)
	}
	reads(t, l, 50, 1, 0)
	d.Limit(0)
	if err := l.Sync(); !errors.Is(err, api.ErrBroken) {
		t.Errorf("Sync of nothing on a dead disk: %v", err)
	}
	reads(t, l, 50, 1, 0)
}

func TestSyncWritesFew(t *testing.T) {
	d, l := fresh(t, 128)
	for n := range api.MaxGroup + 1 {
		for k := range n {
			put(t, l, 127-k, byte(k))
			put(t, l, 127-k, byte(n))
		}
		before := d.Writes()
		sync(t, l)
		if got := d.Writes() - before; got > 2*n+8 {
			t.Errorf("%d writes for %d sectors", got, n)
		}
		m := open(t, d.Crash(nil))
		for k := range n {
			reads(t, m, 127-k, byte(n), 0)
		}
	}
}

func TestSyncOnDeadDisk(t *testing.T) {
	for cut := range 9 {
		d, l := fresh(t, 128)
		put(t, l, 50, 1)
		sync(t, l)
		put(t, l, 50, 2)
		put(t, l, 51, 2)
		put(t, l, 52, 2)
		l.Mark()
		d.Limit(cut)
		err := l.Sync()
		if err == nil && !d.Dead() {
			t.Fatalf("cut %d lies behind the Sync", cut)
		}
		if !errors.Is(err, api.ErrBroken) {
			t.Errorf("cut %d: %v", cut, err)
		}
		for range 2 {
			reads(t, l, 50, 2, 0)
			reads(t, l, 51, 2, 0)
			reads(t, l, 52, 2, 0)
			l.Back()
		}
		put(t, l, 51, 3)
		reads(t, l, 51, 3, 1)
		if !errors.Is(l.Sync(), api.ErrBroken) {
			t.Errorf("cut %d: a second Sync is OK", cut)
		}
		reads(t, l, 50, 2, 0)
		reads(t, l, 51, 3, 0)
		crashes(d, func(e *blockdev.Disk) {
			b, _ := open(t, e).Read(51)
			if b[0] == 3 {
				t.Errorf("cut %d: what a dead disk was told lasts", cut)
			}
		})
	}
}

// TestSyncThatJustEnds: the power goes with the last write, or one later.
func TestSyncThatJustEnds(t *testing.T) {
	d, l := fresh(t, 128)
	put(t, l, 50, 1)
	sync(t, l)
	all := d.Writes()
	for spare := range 2 {
		d, l := fresh(t, 128)
		put(t, l, 50, 1)
		d.Limit(all + spare)
		if err := l.Sync(); d.Dead() != (spare == 0) || (err == nil) == d.Dead() || err != nil && !errors.Is(err, api.ErrBroken) {
			t.Errorf("%d to spare: dead %v, error %v", spare, d.Dead(), err)
		}
	}
}

// TestOpenOfPlainDisk: with zeros in the log's place it stays as it was.
func TestOpenOfPlainDisk(t *testing.T) {
	for _, flushed := range []bool{true, false} {
		d := blockdev.New(200)
		for i := api.LogSectors; i < 200; i++ {
			d.Write(i, noise(i, api.Sector))
		}
		if flushed {
			d.Flush()
		}
		was, writes := home(d), d.Writes()
		l := open(t, d)
		if seen(t, l, 200) != was || home(d) != was || l.Waiting() != 0 || d.Writes() != writes {
			t.Error("Open changed the disk")
		}
		e := d.Crash(nil)
		if m := open(t, e); seen(t, m, 200) != was || home(e) != was {
			t.Error("a crash changed the disk")
		}
		put(t, l, 199, 1)
		sync(t, l)
		was = was[:len(was)-api.Sector] + string(filled(1))
		if seen(t, open(t, d.Crash(nil)), 200) != was {
			t.Error("Sync changed other sectors")
		}
	}
}

// TestTwoLogs: another log on the same disk goes on where this one was.
func TestTwoLogs(t *testing.T) {
	d, l := fresh(t, 128)
	put(t, l, 50, 1)
	put(t, l, 51, 1)
	sync(t, l)
	put(t, l, 50, 2)
	m := open(t, d)
	reads(t, m, 50, 1, 0)
	put(t, m, 51, 3)
	sync(t, m)
	sync(t, l)
	e := open(t, d.Crash(nil))
	reads(t, e, 50, 2, 0)
	reads(t, e, 51, 3, 0)
}

// twins are two sectors that have the same sum.
func twins(t *testing.T) (a, b []byte) {
	a = noise(5, api.Sector)
	b = slices.Clone(a)
	multiple := uint64(0xedb88320)<<1 | 1
	for k := range 5 {
		b[200+k] ^= byte(multiple >> (8 * k))
	}
	if bytes.Equal(a, b) || crc.Sum(a) != crc.Sum(b) {
		t.Fatal("the twins are none")
	}
	return a, b
}
