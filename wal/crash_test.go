package wal_test

import (
	"errors"
	"slices"
	"testing"

	"lychgate/api"
	"lychgate/blockdev"
	"lychgate/wal"
)

// change is a home sector and what it shall hold.
type change struct {
	at int
	b  []byte
}

func allOf(c byte, places ...int) []change {
	var l []change
	for _, i := range places {
		l = append(l, change{i, filled(c)})
	}
	return l
}

// with tells what home is behind these changes.
func with(was string, changes []change) string {
	b := []byte(was)
	for _, c := range changes {
		copy(b[(c.at-api.LogSectors)*api.Sector:], c.b)
	}
	return string(b)
}

func putAll(t *testing.T, l *wal.Log, changes []change) {
	t.Helper()
	for _, c := range changes {
		if err := l.Put(c.at, c.b); err != nil {
			t.Fatalf("Put(%d): %v", c.at, err)
		}
	}
}

// opened opens a disk for good and checks that home is one of these.
func opened(t *testing.T, d *blockdev.Disk, may ...string) string {
	t.Helper()
	l := open(t, d)
	is := seen(t, l, d.Len())
	if !slices.Contains(may, is) {
		t.Fatal("home is as behind no Sync that it may be of")
	}
	if home(d) != is || l.Waiting() != 0 {
		t.Fatal("what was synced isn't at home")
	}
	return is
}

// survives checks that home is one of these however the disk opens: at once,
// or behind openings that are cut off wherever they may be.
func survives(t *testing.T, d *blockdev.Disk, times int, may ...string) {
	t.Helper()
	e := d.Crash(nil)
	is := opened(t, e, may...)
	crashes(e, func(f *blockdev.Disk) { opened(t, f, is) })
	if times == 0 {
		return
	}
	for cut := 0; ; cut++ {
		e := d.Crash(nil)
		e.Limit(cut)
		_, err := wal.Open(e)
		if !e.Dead() {
			return
		}
		if err == nil {
			t.Fatalf("cut %d: Open is OK", cut)
		}
		crashes(e, func(f *blockdev.Disk) { survives(t, f, times-1, is) })
	}
}

// cutSyncs syncs the changes on copies of the disk, cut off behind each number
// of writes, and calls f with each disk that a crash leaves then.
func cutSyncs(t *testing.T, d *blockdev.Disk, changes []change, f func(e *blockdev.Disk, ok bool)) {
	t.Helper()
	for cut := 0; ; cut++ {
		e := d.Crash(nil)
		l := open(t, e)
		putAll(t, l, changes)
		e.Limit(cut)
		err := l.Sync()
		if (err == nil) == e.Dead() || err != nil && !errors.Is(err, api.ErrBroken) {
			t.Fatalf("cut %d: dead %v, error %v", cut, e.Dead(), err)
		}
		crashes(e, func(g *blockdev.Disk) { f(g, err == nil) })
		if err == nil {
			return
		}
	}
}

// synced makes a disk on which these groups were synced.
func synced(t *testing.T, sectors int, groups ...[]change) *blockdev.Disk {
	t.Helper()
	d, l := fresh(t, sectors)
	for _, g := range groups {
		putAll(t, l, g)
		sync(t, l)
	}
	return d
}

// TestEveryCrash goes through all crashes of a Sync, and of the openings
// behind it, with groups that lie over one another in several ways.
func TestEveryCrash(t *testing.T) {
	one, two := twins(t)
	for _, groups := range [][][]change{
		{allOf(1, 50)},
		{allOf(1, 127, 48)},
		{allOf(1, 50, 51, 52), allOf(2, 51)},
		{allOf(1, 50), allOf(2, 50, 51, 52)},
		{allOf(1, 50, 51), allOf(2, 50, 51)},
		{allOf(1, 60, 61), allOf(2, 50, 51, 52)},
		{allOf(1, 50, 51, 52), allOf(2, 60, 61)},
		{allOf(1, 50, 51), allOf(1, 50, 51)},
		{allOf(1, 50), allOf(0, 50)},
		{{{50, one}, {51, two}}, {{50, two}, {51, one}}},
		{{{50, one}, {51, one}}, {{60, two}, {61, two}}},
		{allOf(1, 50, 51, 52), allOf(2, 50, 53), allOf(3, 53, 54)},
	} {
		last := len(groups) - 1
		d := synced(t, 128, groups[:last]...)
		before := home(d)
		after := with(before, groups[last])
		cutSyncs(t, d, groups[last], func(e *blockdev.Disk, ok bool) {
			if ok {
				survives(t, e, 1, after)
			} else {
				survives(t, e, 1, before, after)
			}
		})
	}
}

// TestCrashesOfCrashes cuts off two openings, one behind the other.
func TestCrashesOfCrashes(t *testing.T) {
	d := synced(t, 128, allOf(1, 50, 51))
	before := home(d)
	group := allOf(2, 51, 52)
	cutSyncs(t, d, group, func(e *blockdev.Disk, ok bool) {
		survives(t, e, 2, before, with(before, group))
	})
}

// TestSyncBehindCrash: the next Sync, cut off too, finds nothing that the one
// that was cut off left.
func TestSyncBehindCrash(t *testing.T) {
	one, two := twins(t)
	for _, groups := range [][][]change{
		{allOf(1, 50, 51, 52), allOf(2, 51, 52), allOf(3, 60, 61)},
		{allOf(1, 50), allOf(2, 50, 60), allOf(2, 70, 71, 72)},
		{{{50, two}}, {{50, one}, {51, one}}, {{60, two}, {61, two}}},
	} {
		d := synced(t, 128, groups[0])
		before := home(d)
		cutSyncs(t, d, groups[1], func(e *blockdev.Disk, ok bool) {
			was := opened(t, e, before, with(before, groups[1]))
			cutSyncs(t, e, groups[2], func(f *blockdev.Disk, ok bool) {
				may := []string{with(was, groups[2])}
				if !ok {
					may = append(may, was)
				}
				survives(t, f, 0, may...)
			})
		})
	}
}

// TestCrashesOfGreatGroup can't go through all picks; it takes some of each kind.
func TestCrashesOfGreatGroup(t *testing.T) {
	var one, two []change
	for k := range api.MaxGroup {
		one = append(one, change{127 - k, noise(k, api.Sector)})
		two = append(two, change{127 - 2*k, noise(k+1000, api.Sector)})
	}
	d := synced(t, 128, one)
	before := home(d)
	after := with(before, two)
	if before != with(home(blockdev.New(128)), one) {
		t.Fatal("a group of 40 wasn't synced")
	}
	for cut := 0; ; cut++ {
		e := d.Crash(nil)
		l := open(t, e)
		putAll(t, l, two)
		e.Limit(cut)
		err := l.Sync()
		n := e.Waiting()
		for kind := range 12 {
			picks := make([]bool, n)
			for k := range picks {
				picks[k] = []bool{false, true, k%2 == 0, k%2 == 1, k < n/2, k >= n/2, k == 0, k > 0, k == n-1, k < n-1, k == cut%n, k != cut%n}[kind]
			}
			f := e.Crash(picks)
			f.Limit(cut * 7 % 83)
			if _, err := wal.Open(f); err != nil {
				f = f.Crash(picks)
			}
			f = f.Crash(nil)
			if err == nil {
				opened(t, f, after)
			} else {
				opened(t, f, before, after)
			}
		}
		if err == nil {
			return
		}
	}
}

// writesOfOpen tells how many sectors Open writes on such a disk.
func writesOfOpen(t *testing.T, d *blockdev.Disk) int {
	t.Helper()
	e := d.Crash(nil)
	open(t, e)
	return e.Writes()
}

// torn makes a disk whose log holds a group that isn't at home: sectors 50 to
// 52 are to go from 1 to 2.
func torn(t *testing.T) *blockdev.Disk {
	t.Helper()
	d := synced(t, 128, allOf(1, 50, 51, 52))
	group := allOf(2, 50, 51, 52)
	var found *blockdev.Disk
	cutSyncs(t, d, group, func(e *blockdev.Disk, ok bool) {
		if found == nil && home(e) == home(d) && opened(t, e.Crash(nil), home(d), with(home(d), group)) != home(d) {
			found = e
		}
	})
	if found == nil {
		t.Fatal("no crash leaves a group in the log")
	}
	return found
}

// afterJunk checks that a disk opens, that this lasts, and that Syncs are
// whole from then on.
func afterJunk(t *testing.T, d *blockdev.Disk, group []change) {
	t.Helper()
	e := d.Crash(nil)
	is := seen(t, open(t, e), e.Len())
	survives(t, e, 0, is)
	cutSyncs(t, d, group, func(f *blockdev.Disk, ok bool) {
		may := []string{with(is, group)}
		if !ok {
			may = append(may, is)
		}
		opened(t, f, may...)
	})
}

// TestJunk opens disks full of anything.
func TestJunk(t *testing.T) {
	for seed := range 12 {
		d := blockdev.New(128)
		for i := range 128 {
			b := noise(seed*1000+i, api.Sector)
			switch seed {
			case 0:
				b = filled(255)
			case 1:
				b = filled(1)
			case 2:
				clear(b[2:])
			case 3:
				clear(b[8:])
			}
			if d.Write(i, b) != nil {
				t.Fatal("refused")
			}
		}
		d.Flush()
		was := home(d)
		e := d.Crash(nil)
		if opened(t, e, was); e.Waiting() != 0 {
			t.Error("Open leaves the disk in between")
		}
		afterJunk(t, d, allOf(2, 50, 51, 52))
	}
}

// TestGreatJunk: on a disk where each number may be a home, too.
func TestGreatJunk(t *testing.T) {
	for c := range 256 {
		d := blockdev.New(api.MaxSectors)
		for i := range api.LogSectors {
			b := filled(byte(c))
			if c%16 > 1 {
				b = slices.Repeat([]byte{byte(c), byte(c % 16)}, api.Sector/2)
			}
			if d.Write(i, b) != nil {
				t.Fatal("refused")
			}
		}
		put(t, open(t, d), 48, 1)
	}
}

// TestDamagedLog opens disks whose log held a group and was changed since.
// What is in the log may no longer be known for that group, but it isn't taken
// for another one, nor do later Syncs make one of it: those here log the same
// sectors, with other homes.
func TestDamagedLog(t *testing.T) {
	d := torn(t)
	before, after := home(d), with(home(d), allOf(2, 50, 51, 52))
	for i := range api.LogSectors {
		s, _ := d.Read(i)
		for k := 0; k < api.Sector; k += 1 + k/16*90 {
			for _, x := range []byte{1, 255} {
				b := slices.Clone(s)
				b[k] ^= x
				e := d.Crash(nil)
				if e.Write(i, b) != nil {
					t.Fatal("refused")
				}
				e.Flush()
				survives(t, e, 0, before, after)
				if i < 5 && k < 16 {
					afterJunk(t, e, allOf(2, 60, 61, 62))
				}
			}
		}
	}
}

// TestStrangeLog lays the log of one disk onto another one, which may have
// fewer sectors: a group that has no room there is none, as a whole.
func TestStrangeLog(t *testing.T) {
	group := allOf(1, 50, 300, 4095)
	d := blockdev.New(4096)
	var found *blockdev.Disk
	cutSyncs(t, d, group, func(e *blockdev.Disk, ok bool) {
		if found == nil && writesOfOpen(t, e) > 1 {
			found = e
		}
	})
	if found == nil {
		t.Fatal("no crash leaves a group in the log")
	}
	for _, n := range []int{128, 4095, 4096} {
		e := blockdev.New(n)
		want := home(e)
		for i := range api.LogSectors {
			b, _ := found.Read(i)
			if e.Write(i, b) != nil {
				t.Fatal("refused")
			}
		}
		if n == 4096 {
			want = with(want, group)
		}
		opened(t, e, want)
		l := open(t, e)
		put(t, l, n-1, 9)
		sync(t, l)
		reads(t, open(t, e.Crash(nil)), n-1, 9, 0)
	}
}
