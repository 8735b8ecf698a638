package store_test

import (
	"errors"
	"testing"

	"lychgate/api"
	"lychgate/fs"
)

// P11.1: on an empty file system there is nothing.
func TestEmpty(t *testing.T) {
	p := newTrial(t, 128)
	p.holds(t)
	p.sync(t)
	p.holds(t)
	p.crash(t, nil).holds(t)
}

// P11.1: beside other files, too, which stay as they are.
func TestBesideOthers(t *testing.T) {
	_, f := made(t, 200)
	well(t, f.Mkdir("/d"), f.Create("/d/snap"))
	lay(t, f, "/a", []byte("text"))
	s := opened(t, f)
	well(t, s.Append(event(1)), s.Snapshot(town()), s.Append(event(2)), s.Sync())
	holds(t, opened(t, f), state{town(), []api.Event{event(2)}, 2})
	if b, err := content(f, "/a"); string(b) != "text" || err != nil {
		t.Errorf("%q, %v", b, err)
	}
	if l, err := f.List("/d"); len(l) != 1 || err != nil {
		t.Errorf("%v, %v", l, err)
	}
}

// P11.1: events of all kinds, appended, synced, and read back by others.
func TestAppend(t *testing.T) {
	p := newTrial(t, 200)
	for k, e := range events() {
		p.append(t, e)
		p.holds(t)
		if k%2 > 0 {
			p.sync(t)
			p.holds(t)
			p.crash(t, nil).holds(t)
		}
		if k%3 > 1 {
			// It goes on with another store, too.
			p.s = opened(t, p.f)
		}
	}
}

// P11.1: many events; the same one again and again counts each time.
func TestMany(t *testing.T) {
	p := newTrial(t, 400)
	for k := range 400 {
		p.append(t, event(k), api.Event{Kind: api.ETick})
		if k%57 == 0 {
			p.holds(t)
		}
	}
	p.holds(t)
	p.sync(t)
	p.crash(t, nil).holds(t)
}

// P11.1: snapshots of all worlds, one behind the other, with events before and
// behind each.
func TestSnapshots(t *testing.T) {
	p := newTrial(t, 400)
	for k, w := range worlds() {
		p.some(t, k%4)
		p.holds(t)
		p.snapshot(t, w)
		p.holds(t)
		if p.sure != len(p.all) || len(p.s.Events()) > 0 {
			t.Fatal("a snapshot leaves events")
		}
		p.some(t, (k+1)%3)
		p.holds(t)
		if k%5 > 3 {
			p.sync(t)
			p.s = opened(t, p.f)
		}
	}
}

// P11.1: a snapshot lasts without a Sync, and so does what was appended ahead.
func TestSnapshotLasts(t *testing.T) {
	for _, w := range worlds() {
		p := newTrial(t, 400)
		p.some(t, 3)
		p.snapshot(t, w)
		if n := p.d.Waiting(); n > 0 {
			t.Errorf("%d writes wait", n)
		}
		p.crash(t, nil).holds(t)
		if q := p.crash(t, nil); len(q.all) != 3 {
			t.Errorf("%d events", len(q.all))
		}
	}
}

// P11.1: a Sync makes events last, and nothing else does for sure.
func TestSync(t *testing.T) {
	p := newTrial(t, 200)
	p.sync(t)
	for k := range 20 {
		p.some(t, k%3)
		if q := p.crash(t, nil); q.sure != p.sure {
			t.Errorf("%d events last, %d were synced", q.sure, p.sure)
		}
		if k%4 == 0 {
			p.sync(t)
		}
	}
	p.sync(t)
	if q := p.crash(t, nil); q.sure != len(p.all) {
		t.Errorf("%d events last of %d", q.sure, len(p.all))
	}
}

// P11.1: Number goes up by one with each event that is taken, and by nothing
// else, over snapshots and other stores.
func TestNumber(t *testing.T) {
	_, f := made(t, 200)
	s := opened(t, f)
	want := int64(0)
	is := func(what string) {
		t.Helper()
		if s.Number() != want || opened(t, f).Number() != want {
			t.Errorf("%s: %d, %d, want %d", what, s.Number(), opened(t, f).Number(), want)
		}
	}
	for k := range 12 {
		is("first")
		well(t, s.Append(event(k)))
		want++
		is("Append")
		well(t, s.Sync())
		is("Sync")
		if k%3 > 0 {
			well(t, s.Snapshot(world(k)))
			is("Snapshot")
			well(t, s.Snapshot(world(k+1)))
			is("another Snapshot")
		}
		if s.Append(longEvent(1, 5000)) == nil || s.Snapshot(longWorld(1, 90000)) == nil {
			t.Fatal("they don't fit")
		}
		is("refused")
		if k%4 > 1 {
			s = opened(t, f)
			is("Open")
		}
	}
}

// P11.1: snapshots are written in parts of one Write each, at and beside the
// ends of these, and of blocks.
func TestParts(t *testing.T) {
	p := newTrial(t, 600)
	for _, n := range []int{450, 499, 500, 501, 4083, 4084, 4085, 4096, 4097, 8179, 8180, 8181, 8192, 40948, 40949, 69620, 69621, 40949, 8180, 500} {
		p.append(t, event(n))
		p.snapshot(t, longWorld(n, n))
		p.holds(t)
	}
}

// P11.1: the snapshot ahead is gone: a world may be replaced by one of the same
// length, a shorter and a longer one, as often as one likes.
func TestReplaced(t *testing.T) {
	p := newTrial(t, 160)
	for k := range 60 {
		p.some(t, k%3)
		p.snapshot(t, longWorld(k, 100+(k*k*k)%24000))
		p.holds(t)
	}
}

// P11.1: worlds whose rows take as many bytes as a codec may take for them, up to
// the longest one that a file holds.
func TestWidest(t *testing.T) {
	p := newTrial(t, 700)
	rows := 0
	for k := 1; ; k += 1 + k/4 {
		err := p.s.Snapshot(wide(k))
		if errors.Is(err, api.ErrBig) {
			break
		}
		well(t, err)
		rows = k
		p.snapshot(t, wide(k))
		p.holds(t)
		p.some(t, 1)
	}
	if rows < 50 {
		t.Errorf("only %d rows", rows)
	}
	p.holds(t)
}

// P11.1: no descriptor stays taken, however many stores are opened.
func TestNoFileStaysOpen(t *testing.T) {
	p := newTrial(t, 200)
	for k := range 30 {
		p.s = opened(t, p.f)
		p.some(t, 1)
		if k%5 == 0 {
			p.snapshot(t, world(k))
		}
		refused(t, "Append", p.s.Append(longEvent(0, 9000)), api.ErrBig)
		refused(t, "Snapshot", p.s.Snapshot(longWorld(0, 100000)), api.ErrFull)
		for fd := range 8 {
			if _, err := p.f.Size(fd); err == nil {
				t.Fatalf("descriptor %d is open", fd)
			}
		}
	}
	p.holds(t)
}

// P11.1: two file systems know nothing of one another.
func TestTwo(t *testing.T) {
	p, q := newTrial(t, 200), newTrial(t, 200)
	for k := range 10 {
		p.some(t, 1)
		q.append(t, event(100-k))
		if k%4 == 1 {
			p.snapshot(t, world(k))
		}
		if k%4 == 3 {
			q.snapshot(t, longWorld(k, 5000))
		}
	}
	p.holds(t)
	q.holds(t)
}

// P0.5: calls that only tell change nothing.
func TestTelling(t *testing.T) {
	p := newTrial(t, 200)
	p.some(t, 4)
	p.snapshot(t, town())
	p.some(t, 3)
	was := seen(t, p.f)
	for range 5 {
		holds(t, p.s, p.state())
	}
	if is := seen(t, p.f); is != was {
		t.Errorf("%s is now %s", was, is)
	}
}

// P11.2: a store that is in order is opened without a write.
func TestOpenWritesNothing(t *testing.T) {
	p := newTrial(t, 200)
	for k := range 3 {
		if k > 0 {
			p.snapshot(t, longWorld(k, 6000))
		}
		for range 2 {
			p.sync(t)
			n := p.d.Writes()
			well(t, opened(t, p.f).Sync())
			if p.d.Writes() != n {
				t.Errorf("%d writes", p.d.Writes()-n)
			}
			p.some(t, 3)
		}
	}
}

// P11.2: the store is there for another mount of the disk.
func TestMountAgain(t *testing.T) {
	p := newTrial(t, 200)
	p.some(t, 5)
	p.snapshot(t, town())
	p.some(t, 2)
	p.sync(t)
	var f *fs.FS
	for range 3 {
		f = mounted(t, p.d)
		holds(t, opened(t, f), p.state())
	}
	s := opened(t, f)
	well(t, s.Append(event(8)), s.Sync())
	holds(t, opened(t, mounted(t, p.d)), state{town(), append(p.all[5:7:7], event(8)), 8})
}
