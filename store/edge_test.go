package store_test

import (
	"errors"
	"fmt"
	"strings"
	"testing"

	"lychgate/api"
	"lychgate/codec"
	"lychgate/fs"
	"lychgate/store"
)

// most of a record is an event's and its number's: this is the event's part.
const mostOfEvent = 4088 - 8

// wontTake checks that an event is refused, and nothing has changed, also for
// who opens the store again.
func (p *trial) wontTake(t testing.TB, e api.Event, want api.Err) {
	t.Helper()
	was := seen(t, p.f)
	refused(t, fmt.Sprint("Append of ", len(codec.Event(e))), p.s.Append(e), want)
	p.unchanged(t, was)
}

// wontTakeLong checks that events that are longer than a record may be are
// refused: where there is no room even for the longest record, that counts.
func (p *trial) wontTakeLong(t testing.TB) {
	t.Helper()
	want := api.ErrBig
	if !p.hasRoom(mostOfEvent) {
		want = api.ErrFull
	}
	for _, n := range []int{mostOfEvent + 1, 5000, 1 << 18} {
		p.wontTake(t, longEvent(7, n), want)
	}
}

// hasRoom tells whether there is room for an event of n bytes.
func (p *trial) hasRoom(n int) bool {
	free, _ := p.f.Free()
	end := p.logSize() + 16 + n
	return end <= most && grows(p.logSize(), end) <= free
}

// wontStand checks the same of a world.
func (p *trial) wontStand(t testing.TB, w *api.World, want api.Err) {
	t.Helper()
	was := seen(t, p.f)
	refused(t, fmt.Sprint("Snapshot of ", len(codec.World(w))), p.s.Snapshot(w), want)
	p.unchanged(t, was)
}

func (p *trial) unchanged(t testing.TB, was string) {
	t.Helper()
	if is := seen(t, p.f); is != was {
		t.Errorf("it was refused, and changed %s to %s", was, is)
	}
	holds(t, p.s, p.state())
	if s, err := store.Open(p.f); err == nil {
		holds(t, s, p.state())
	} else if !errors.Is(err, api.ErrFull) {
		t.Errorf("Open: %v", err)
	}
}

// P11.1: events of the greatest length that a record may have, and longer ones,
// whatever makes them so long.
func TestLongEvents(t *testing.T) {
	p := newTrial(t, 400)
	dice := func(n int) api.Event {
		e := longEvent(0, n-2*1000)
		e.Dice = make([]int, 1000)
		e.Text = e.Text[:len(e.Text)-n%7]
		for len(codec.Event(e)) < n {
			e.Text += "x"
		}
		return e
	}
	name := func(n int) api.Event {
		e := longEvent(3, n)
		e.Name, e.Text = e.Text, ""
		return e
	}
	for k, n := range []int{mostOfEvent - 1, mostOfEvent, mostOfEvent + 1, mostOfEvent + 8, mostOfEvent + 9, 4096, 5000, 1 << 16, 1 << 18} {
		l := []api.Event{longEvent(byte(k), n), dice(n), name(n)}
		for _, e := range l {
			if n > mostOfEvent {
				p.wontTake(t, e, api.ErrBig)
				continue
			}
			p.append(t, e)
			p.holds(t)
		}
		p.some(t, 1)
		p.holds(t)
	}
	p.sync(t)
	p.crash(t, nil).holds(t)
}

// P11.1: whether an event is too long hangs on it alone, not on how many there
// were.
func TestLongEventLater(t *testing.T) {
	for _, n := range []int64{0, 1, 255, 256, 1 << 31, 1 << 40, 1<<63 - 5} {
		_, f := made(t, 200)
		lay(t, f, "/snap", packed(n, nil))
		s := opened(t, f)
		well(t, s.Append(longEvent(0, mostOfEvent)))
		refused(t, "Append", s.Append(longEvent(0, mostOfEvent+1)), api.ErrBig)
		for _, s := range []*store.Store{s, opened(t, f)} {
			if l := s.Events(); s.Number() != n+1 || len(l) != 1 || len(codec.Event(l[0])) != mostOfEvent {
				t.Errorf("%d, %d events", s.Number(), len(l))
			}
		}
	}
}

// P11.1: no world may be handed in, too: it stands for all events up to now.
func TestNilWorld(t *testing.T) {
	p := newTrial(t, 200)
	for k, w := range []*api.World{nil, nil, {}, nil, town(), nil} {
		p.snapshot(t, w)
		p.holds(t)
		p.some(t, k)
		p.holds(t)
		p.snapshot(t, w)
		if got := p.s.World(); (got == nil) != (w == nil) || len(p.s.Events()) > 0 || p.s.Number() != int64(len(p.all)) {
			t.Errorf("%v, want %v", got, w)
		}
		p.holds(t)
		p.some(t, 2)
		p.sync(t)
		p.holds(t)
		p = p.crash(t, nil)
	}
}

// P11.1: an empty world is another one than none.
func TestEmptyWorld(t *testing.T) {
	p := newTrial(t, 200)
	p.snapshot(t, &api.World{})
	if p.s.World() == nil || opened(t, p.f).World() == nil {
		t.Error("there is no world")
	}
	p.holds(t)
	p.some(t, 2)
	p.snapshot(t, &api.World{Chars: []api.Char{}, Tills: make([]api.Till, 0, 7)})
	p.holds(t)
}

// longest answers the greatest length of a world that a file holds.
func longest(t *testing.T) int {
	t.Helper()
	_, f := made(t, 600)
	s := opened(t, f)
	for n := most; n > most-64; n-- {
		if err := s.Snapshot(longWorld(1, n)); err == nil {
			return n
		} else if !errors.Is(err, api.ErrBig) {
			t.Fatal(err)
		}
	}
	t.Fatal("no world of nearly 200 blocks can be a snapshot")
	return 0
}

// P11.1: a world may be as long as a file, and not longer, wherever there is
// room for it and even where there is none.
func TestLongestWorld(t *testing.T) {
	n := longest(t)
	for _, sectors := range []int{128, 200, 400, 600, 4096} {
		p := newTrial(t, sectors)
		p.some(t, 2)
		p.snapshot(t, town())
		p.some(t, 2)
		for _, more := range []int{1, 2, 500, 4096, 100000, 1 << 22} {
			p.wontStand(t, longWorld(2, n+more), api.ErrBig)
		}
		p.holds(t)
		if sectors < 400 {
			p.wontStand(t, longWorld(3, n), api.ErrFull)
			continue
		}
		for k := range 3 {
			// The one that is replaced stays until the new one is there.
			if k > 0 && sectors < 600 {
				p.wontStand(t, longWorld(4, n), api.ErrFull)
				continue
			}
			p.snapshot(t, longWorld(k, n))
			p.holds(t)
			p.some(t, 1)
			p.holds(t)
		}
	}
}

// P11.2: no store and no file system.
func TestNone(t *testing.T) {
	for _, f := range []*fs.FS{nil, {}} {
		s, err := store.Open(f)
		refused(t, "Open of no file system", err, api.ErrRange)
		if s != nil {
			t.Errorf("%v", s)
		}
	}
	for _, s := range []*store.Store{nil, {}} {
		for range 2 {
			for _, e := range append(events(), longEvent(1, 5000)) {
				refused(t, "Append", s.Append(e), api.ErrRange)
			}
			for _, w := range append(worlds(), longWorld(1, 200000)) {
				refused(t, "Snapshot", s.Snapshot(w), api.ErrRange)
			}
			refused(t, "Sync", s.Sync(), api.ErrRange)
			holds(t, s, state{})
		}
	}
}

// P11.1, P0.1: on a disk without power all goes on in front, but nothing lasts.
func TestDeadDisk(t *testing.T) {
	for _, before := range []int{0, 3} {
		p := newTrial(t, 200)
		p.some(t, before)
		if before > 0 {
			p.snapshot(t, town())
		}
		p.some(t, before)
		p.sync(t)
		p.d.Limit(0)
		p.s = opened(t, p.f)
		p.holds(t)
		for k := range 30 {
			p.append(t, longEvent(byte(k), 100*k+50))
			p.holds(t)
			if k%5 == 0 {
				p.sync(t)
			}
			if k == 20 {
				p.snapshot(t, longWorld(k, 9000))
				p.holds(t)
			}
		}
		p.wontTake(t, longEvent(0, 5000), api.ErrBig)
		p.wontStand(t, longWorld(0, 90000), api.ErrFull)
		q := p.crash(t, []bool{true, true, false, true})
		if len(q.all) != 2*before {
			t.Errorf("%d events", len(q.all))
		}
		q.goesOn(t)
	}
}

// P11.1: the errors tell in words what they are of, and wrap what they come from.
func TestErrorsWrap(t *testing.T) {
	_, f := made(t, 128)
	s := opened(t, f)
	is := func(err error, want string) {
		t.Helper()
		if err == nil || err.Error() != want || errors.Unwrap(err) == nil {
			t.Errorf("%v, want %s", err, want)
		}
	}
	is(s.Append(longEvent(0, 5000)), "store: append: too big")
	is(s.Snapshot(longWorld(0, 200000)), "store: snapshot: too big")
	is(s.Snapshot(longWorld(0, 40000)), "store: snapshot: no room")
	var l []int
	for range 8 {
		fd, err := f.Open("/log")
		well(t, err)
		l = append(l, fd)
	}
	var path *fs.PathError
	err := s.Append(event(1))
	if is(err, "store: append: Open /log: no room"); !errors.As(err, &path) || path.Op != "Open" || path.Path != "/log" {
		t.Errorf("%v", err)
	}
	_, err = store.Open(f)
	if is(err, "store: open: journal: open: Open /log: no room"); !errors.As(err, &path) || path.Path != "/log" {
		t.Errorf("%v", err)
	}
	err = s.Snapshot(town())
	if is(err, "store: snapshot: Open /new: no room"); !errors.As(err, &path) || path.Path != "/new" {
		t.Errorf("%v", err)
	}
	for _, fd := range l {
		well(t, f.Close(fd))
	}
	lay(t, f, "/snap", []byte("junk"))
	_, err = store.Open(f)
	is(err, "store: open: not what it should be")
	_, err = store.Open(nil)
	if !errors.Is(err, api.ErrRange) || !strings.HasSuffix(err.Error(), "out of range") {
		t.Errorf("%v", err)
	}
	d, f := made(t, 128)
	s = opened(t, f)
	d.Limit(0)
	is(s.Sync(), "store: sync: not what it should be")
	is(s.Snapshot(nil), "store: snapshot: not what it should be")
}
