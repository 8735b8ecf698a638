package store_test

import (
	"bytes"
	"fmt"
	"math"
	"slices"
	"testing"

	"lychgate/api"
	"lychgate/codec"
	"lychgate/fs"
	"lychgate/store"
)

// wontOpen checks that what stands on a file system is no store.
func wontOpen(t testing.TB, what string, f *fs.FS, want api.Err) {
	t.Helper()
	was := seen(t, f)
	s, err := store.Open(f)
	refused(t, what, err, want)
	if s != nil {
		t.Errorf("%s: %v", what, s)
	}
	if is := seen(t, f); is != was {
		t.Errorf("%s: Open changed %s to %s", what, was, is)
	}
}

// P11.1: a /snap that is none: ErrBroken, and nothing changes.
func TestNoSnap(t *testing.T) {
	p := newTrial(t, 300)
	p.some(t, 5)
	p.snapshot(t, town())
	p.some(t, 3)
	p.sync(t)
	good, err := content(p.f, "/snap")
	well(t, err)
	bad := [][]byte{nil, {0}, {'W'}, []byte("no snapshot"), make([]byte, 12), make([]byte, 512), make([]byte, 9000), bytes.Repeat([]byte{255}, 12), bytes.Repeat([]byte{1}, 4096), codec.World(town()), codec.Event(event(1))}
	for n := range good {
		bad = append(bad, good[:n])
	}
	for i := range good {
		for _, x := range []byte{1, 0x80, 0xff} {
			b := slices.Clone(good)
			b[i] ^= x
			bad = append(bad, b)
		}
	}
	for _, behind := range [][]byte{{0}, {1}, make([]byte, 500), good} {
		bad = append(bad, slices.Concat(good, behind))
	}
	log, err := content(p.f, "/log")
	well(t, err)
	bad = append(bad, log)
	for _, b := range bad {
		lay(t, p.f, "/snap", b)
		wontOpen(t, fmt.Sprintf("%d bytes, %.40q", len(b), b), p.f, api.ErrBroken)
	}
	lay(t, p.f, "/snap", good)
	p.holds(t)
}

// P11.1: a /snap whose sum is right, but which holds no world, or stands for
// fewer events than none.
func TestNoSnapWithItsSum(t *testing.T) {
	_, f := made(t, 300)
	good := codec.World(town())
	for _, b := range [][]byte{
		packed(3, []byte("W")), packed(3, []byte{0}), packed(3, good[:len(good)-1]), packed(3, append(slices.Clone(good), 0)), packed(0, codec.Event(event(1))),
		packed(-1, good), packed(-1, nil), packed(math.MinInt64, good),
	} {
		lay(t, f, "/snap", b)
		wontOpen(t, fmt.Sprintf("%.40q", b), f, api.ErrBroken)
	}
	for _, n := range []int64{0, 1, 300, 1 << 40, math.MaxInt64 - 2} {
		for _, w := range []*api.World{nil, {}, town()} {
			lay(t, f, "/snap", packed(n, codec.World(w)))
			s := opened(t, f)
			holds(t, s, state{world: w, number: int(n)})
			well(t, s.Append(event(1)), s.Snapshot(world(2)), s.Append(event(2)))
			holds(t, opened(t, f), state{world(2), []api.Event{event(2)}, int(n) + 2})
			well(t, f.Unlink("/log"))
		}
	}
}

// P0.6: where the numbers end, an event is refused.
func TestLastNumber(t *testing.T) {
	_, f := made(t, 200)
	lay(t, f, "/snap", packed(math.MaxInt64-1, nil))
	s := opened(t, f)
	well(t, s.Append(event(1)))
	for range 2 {
		want := state{nil, []api.Event{event(1)}, math.MaxInt64}
		refused(t, "Append", s.Append(event(2)), api.ErrFull)
		holds(t, s, want)
		holds(t, opened(t, f), want)
	}
	for _, n := range []int64{math.MinInt64, 0, -1} {
		lay(t, f, "/snap", packed(math.MaxInt64, nil))
		lay(t, f, "/log", logged(t, n, event(1)))
		wontOpen(t, "a number that is none", f, api.ErrBroken)
	}
}

// P11.1: a directory is no snapshot.
func TestSnapIsDirectory(t *testing.T) {
	for _, names := range [][]string{nil, {"/snap/a"}} {
		_, f := made(t, 128)
		well(t, f.Mkdir("/snap"))
		for _, name := range names {
			well(t, f.Create(name))
		}
		wontOpen(t, "a directory", f, api.ErrBroken)
	}
}

// P11.1: it is the snapshot's error that counts, wherever others apply.
func TestSnapFirst(t *testing.T) {
	_, f := made(t, 128)
	lay(t, f, "/snap", []byte("junk"))
	well(t, f.Mkdir("/log"))
	wontOpen(t, "both", f, api.ErrBroken)
	well(t, f.Unlink("/snap"))
	wontOpen(t, "a log that is a directory", f, api.ErrIsDir)
}

// P11.1: there is no room for a log.
func TestNoRoomToOpen(t *testing.T) {
	_, f := made(t, 128)
	for k := range 30 {
		well(t, f.Create(fmt.Sprint("/n", k)))
	}
	wontOpen(t, "no node", f, api.ErrFull)
	well(t, f.Unlink("/n3"))
	holds(t, opened(t, f), state{})
	for range 8 {
		_, err := f.Open("/n1")
		well(t, err)
	}
	wontOpen(t, "no descriptor", f, api.ErrFull)
}

// P11.2: a /new that a crash left behind, whatever is in it, goes, and what it
// took is free; a world that is as long as all room allows stands then.
func TestNewIsLeft(t *testing.T) {
	whole := packed(8, codec.World(town()))
	for _, b := range [][]byte{nil, {1}, make([]byte, 600), whole, whole[:len(whole)/2], packed(99, nil), bytes.Repeat([]byte("x"), 20000)} {
		for _, snap := range []bool{false, true} {
			p := newTrial(t, 200)
			p.some(t, 4)
			if snap {
				p.snapshot(t, town())
				p.some(t, 2)
			}
			p.sync(t)
			lay(t, p.f, "/new", b)
			well(t, p.f.Sync())
			q := p.crash(t, nil)
			if len(q.all) != len(p.all) {
				t.Errorf("%d events, want %d", len(q.all), len(p.all))
			}
			q.goesOn(t)
			p.holds(t)
			p.goesOn(t)
		}
	}
}

// P11.1: something at /new that came behind Open is no trouble, or is told of.
func TestNewComesLater(t *testing.T) {
	p := newTrial(t, 200)
	p.some(t, 2)
	lay(t, p.f, "/new", bytes.Repeat([]byte("x"), 20000))
	p.snapshot(t, longWorld(1, 700))
	p.holds(t)
	p.some(t, 2)
	// Somebody has it open.
	lay(t, p.f, "/new", bytes.Repeat([]byte("y"), 20000))
	fd, err := p.f.Open("/new")
	well(t, err)
	holds(t, opened(t, p.f), p.state())
	p.snapshot(t, longWorld(2, 300))
	well(t, p.f.Close(fd))
	p.holds(t)
	well(t, p.f.Mkdir("/new"), p.f.Mkdir("/new/d"))
	p.wontStand(t, world(1), api.ErrIsDir)
	p.some(t, 1)
	well(t, p.f.Unlink("/new/d"), p.f.Unlink("/new"))
	p.snapshot(t, world(1))
	p.holds(t)
}

// P11.1: somebody reads /snap, so that nothing can replace it, or there is
// something else: nothing has changed.
func TestSnapIsBusy(t *testing.T) {
	p := newTrial(t, 200)
	p.some(t, 2)
	p.snapshot(t, town())
	p.some(t, 2)
	fd, err := p.f.Open("/snap")
	well(t, err)
	p.wontStand(t, longWorld(1, 6000), api.ErrBusy)
	well(t, p.f.Close(fd))
	p.snapshot(t, longWorld(1, 6000))
	p.holds(t)
	p.some(t, 2)
	well(t, p.f.Unlink("/snap"), p.f.Mkdir("/snap"))
	was := seen(t, p.f)
	refused(t, "Snapshot", p.s.Snapshot(town()), api.ErrIsDir)
	holds(t, p.s, p.state())
	if is := seen(t, p.f); is != was {
		t.Errorf("it was refused, and changed %s to %s", was, is)
	}
}

// laidLog makes a log of events with these numbers.
func laidLog(t *testing.T, f *fs.FS, numbers ...int64) {
	t.Helper()
	var b []byte
	for _, n := range numbers {
		b = append(b, logged(t, n, event(int(n)))...)
	}
	lay(t, f, "/log", b)
}

// P11.1: events of the log that the snapshot holds are passed over, whether
// there are others behind them or not.
func TestLogHoldsMore(t *testing.T) {
	for _, numbers := range [][]int64{
		{}, {1}, {5}, {1, 2, 3}, {1, 2, 3, 4, 5}, {4, 5}, {2, 1}, {3, 3},
		{6}, {6, 7, 8}, {5, 6}, {1, 2, 3, 4, 5, 6, 7}, {1, 2, 6}, {6, 1, 7},
	} {
		_, f := made(t, 200)
		lay(t, f, "/snap", packed(5, codec.World(town())))
		laidLog(t, f, numbers...)
		want := state{world: town(), number: 5}
		for _, n := range numbers {
			if n > 5 {
				want.events = append(want.events, event(int(n)))
				want.number++
			}
		}
		s := opened(t, f)
		for k := range 3 {
			holds(t, s, want)
			well(t, s.Append(event(50+k)), s.Sync())
			want.events, want.number = append(want.events, event(50+k)), want.number+1
			holds(t, s, want)
			s = opened(t, f)
		}
		well(t, s.Snapshot(world(1)))
		holds(t, opened(t, f), state{world: world(1), number: want.number})
	}
}

// P11.1: the same with the store's own files: a log from ahead of a snapshot is
// laid back.
func TestLogIsBack(t *testing.T) {
	p := newTrial(t, 200)
	var logs [][]byte
	for k := range 4 {
		p.some(t, 3)
		b, err := content(p.f, "/log")
		well(t, err)
		logs = append(logs, b)
		p.snapshot(t, longWorld(k, 2000))
		for _, b := range logs {
			lay(t, p.f, "/log", b)
			p.holds(t)
			lay(t, p.f, "/log", b)
			q := &trial{d: p.d, f: p.f, s: opened(t, p.f), all: slices.Clone(p.all), snaps: p.snaps}
			q.some(t, 3)
			q.holds(t)
		}
		lay(t, p.f, "/log", nil)
		p.s = opened(t, p.f)
	}
}

// P11.1: a log that is full of events that the snapshot holds has room again.
func TestFullLogIsBack(t *testing.T) {
	_, f := made(t, 400)
	lay(t, f, "/snap", packed(25, nil))
	var b []byte
	for k := range 25 {
		b = append(b, logged(t, int64(k+1), longEvent(byte(k), mostOfEvent))...)
	}
	lay(t, f, "/log", b)
	s := opened(t, f)
	holds(t, s, state{number: 25})
	well(t, s.Append(event(1)))
	holds(t, opened(t, f), state{events: []api.Event{event(1)}, number: 26})
}

// P11.2: a log in which events are missing, or one that holds none, is not what
// a crash leaves.
func TestLogIsNone(t *testing.T) {
	_, f := made(t, 200)
	lay(t, f, "/snap", packed(5, nil))
	for _, numbers := range [][]int64{{7}, {6, 8}, {6, 6}, {5, 6, 6}, {6, 7, 6}, {0}, {0, 6}, {-1}, {6, -7}, {math.MinInt64}, {math.MaxInt64}, {6, math.MaxInt64}} {
		var b []byte
		for _, n := range numbers {
			b = append(b, logged(t, n, event(1))...)
		}
		lay(t, f, "/log", b)
		wontOpen(t, fmt.Sprint(numbers), f, api.ErrBroken)
	}
	good := logged(t, 6, event(6))[8:]
	for _, b := range [][]byte{{}, {6}, good[:7], good[:8], good[:9], good[:len(good)-1], append(slices.Clone(good), 0), append(slices.Clone(good[:8]), codec.World(town())...), make([]byte, 4088)} {
		lay(t, f, "/log", slices.Concat(logged(t, 5, event(5)), framed(t, b)))
		wontOpen(t, fmt.Sprintf("%.30q", b), f, api.ErrBroken)
	}
	lay(t, f, "/log", framed(t, good))
	holds(t, opened(t, f), state{events: []api.Event{event(6)}, number: 6})
}

// P11.2: an end of the log that is no record is cut off, and what is appended
// stands behind the others.
func TestLogEndsInJunk(t *testing.T) {
	for _, behind := range [][]byte{{0}, make([]byte, 900), []byte("junk"), bytes.Repeat([]byte{255}, 3000)} {
		for _, n := range []int{0, 1, 3} {
			p := newTrial(t, 200)
			p.some(t, n)
			b, err := content(p.f, "/log")
			well(t, err)
			lay(t, p.f, "/log", append(b, behind...))
			p.s = opened(t, p.f)
			p.holds(t)
			p.some(t, 2)
			p.holds(t)
			p.sync(t)
			p.crash(t, nil).goesOn(t)
		}
	}
}

// P0.1: the log is gone, or something else is there: that is told.
func TestLogIsGone(t *testing.T) {
	p := newTrial(t, 200)
	p.some(t, 2)
	well(t, p.f.Unlink("/log"))
	refused(t, "Append", p.s.Append(event(1)), api.ErrNotFound)
	refused(t, "Snapshot", p.s.Snapshot(town()), api.ErrNotFound)
	well(t, p.f.Mkdir("/log"))
	refused(t, "Append", p.s.Append(event(1)), api.ErrIsDir)
	refused(t, "Snapshot", p.s.Snapshot(town()), api.ErrIsDir)
	well(t, p.f.Unlink("/log"), p.s.Sync())
	// The snapshot is there already: it is only what is left of the log that isn't.
	holds(t, p.s, state{world: town(), number: 2})
	holds(t, opened(t, p.f), state{world: town(), number: 2})
}

// P0.1: whatever stands in the files, Open answers, and what it answers works.
func FuzzOpen(f *testing.F) {
	f.Add([]byte("junk"), []byte("junk"), int64(3), false)
	f.Add([]byte{}, codec.Event(event(3)), int64(0), true)
	f.Add(codec.World(town()), codec.Event(event(3)), int64(5), true)
	f.Add(codec.World(nil), []byte{}, int64(-1), true)
	f.Fuzz(func(t *testing.T, snap, log []byte, n int64, sums bool) {
		_, g := made(t, 700)
		if snap, log = snap[:min(len(snap), 4000)], log[:min(len(log), 4000)]; sums {
			snap, log = packed(n, snap), framed(t, append(logged(t, n+1, event(1))[8:16], log...))
		}
		lay(t, g, "/snap", snap)
		lay(t, g, "/log", log)
		s, err := store.Open(g)
		if err != nil {
			refused(t, "Open", err, api.ErrBroken)
			return
		}
		was := state{s.World(), s.Events(), int(s.Number())}
		well(t, s.Append(event(4)), s.Sync())
		was.events, was.number = append(was.events, event(4)), was.number+1
		holds(t, opened(t, g), was)
		well(t, s.Snapshot(town()))
		holds(t, opened(t, g), state{world: town(), number: was.number})
	})
}
