package store_test

import (
	"errors"
	"fmt"
	"strings"
	"testing"

	"lychgate/api"
	"lychgate/codec"
	"lychgate/fs"
)

// fill lets only so many blocks be free: the others are those of files.
func fill(t testing.TB, f *fs.FS, left int) {
	t.Helper()
	for k := 0; ; k++ {
		free, _ := f.Free()
		if free <= left+8 {
			break
		}
		fillFile(t, f, fmt.Sprint("/full", k), min(free-left-8, 190))
	}
	free, _ := f.Free()
	fillFile(t, f, "/rest", free-left)
	if free, _ := f.Free(); free != left {
		t.Fatalf("%d blocks are free, not %d", free, left)
	}
}

// fillFile makes a file that takes n blocks, or up to three less if n is above 8.
func fillFile(t testing.TB, f *fs.FS, path string, n int) {
	t.Helper()
	well(t, f.Create(path))
	fd, err := f.Open(path)
	for k := 0; blocks((k+1)*512) <= n; k++ {
		well(t, err, f.Write(fd, k*512, []byte("a")))
	}
	well(t, f.Close(fd))
}

// unfill lets what fill took be free.
func unfill(t testing.TB, f *fs.FS) {
	t.Helper()
	for k := 0; ; k++ {
		err := f.Unlink(fmt.Sprint("/full", k))
		if errors.Is(err, api.ErrNotFound) {
			break
		}
		well(t, err)
	}
	well(t, f.Unlink("/rest"))
}

// logSize tells how many bytes the log has.
func (p *trial) logSize() int {
	n := 0
	for _, e := range p.state().events {
		n += 16 + len(codec.Event(e))
	}
	return n
}

// mayTake checks that an event is taken if there is room for it, and else refused.
func (p *trial) mayTake(t testing.TB, e api.Event) {
	t.Helper()
	if p.hasRoom(len(codec.Event(e))) {
		p.append(t, e)
	} else {
		p.wontTake(t, e, api.ErrFull)
	}
}

// fillLog appends events until the log has so many bytes.
func (p *trial) fillLog(t testing.TB, size int) {
	t.Helper()
	for rest := size - p.logSize(); rest > 0; rest = size - p.logSize() {
		n := rest
		if n > 4096 {
			n = min(4096, rest-1000)
		}
		p.append(t, longEvent(byte(n), n-16))
	}
}

// same checks what the store tells, and what another one does, where there are
// other files, too.
func (p *trial) same(t testing.TB) {
	t.Helper()
	holds(t, p.s, p.state())
	holds(t, opened(t, p.f), p.state())
	if b, err := content(p.f, "/log"); len(b) != p.logSize() || err != nil {
		t.Errorf("the log has %d bytes, want %d, %v", len(b), p.logSize(), err)
	}
}

// behind answers what a crash leaves behind a Sync, beside other files.
func (p *trial) behind(t testing.TB) *trial {
	t.Helper()
	well(t, p.s.Sync())
	q := &trial{d: p.d.Crash(nil), all: p.all, snaps: p.snaps[len(p.snaps)-1:]}
	q.f = mounted(t, q.d)
	q.s = opened(t, q.f)
	q.same(t)
	return q
}

// P11.1: on a full disk an event is refused that needs more blocks than are left,
// and nothing has changed; one that needs no more is taken.
func TestAppendToFullDisk(t *testing.T) {
	t.Parallel()
	for left := range 11 {
		for _, size := range []int{20, 470, 495, 496, 497, 2000, 3568, mostOfEvent} {
			p := newTrial(t, 128)
			p.snapshot(t, town())
			p.append(t, longEvent(0, size))
			fill(t, p.f, left)
			for k, n := range []int{mostOfEvent, 3000, 1500, 600, 496, 495, 300, 100, 20, 20, 300, mostOfEvent} {
				p.mayTake(t, longEvent(byte(k), n))
				p.same(t)
				p.wontTakeLong(t)
			}
			p = p.behind(t)
			// With room there it goes on.
			unfill(t, p.f)
			p.append(t, longEvent(1, mostOfEvent))
			p.snapshot(t, longWorld(1, 9000))
			p.append(t, longEvent(2, mostOfEvent))
			p.behind(t)
		}
	}
}

// P11.1: the same of a log that comes to where its file needs two more blocks that
// name others.
func TestAppendToFullDiskFurther(t *testing.T) {
	t.Parallel()
	for left := range 13 {
		for _, behind := range []int{-4097, -4096, -1000, -1, 0, 1} {
			p := newTrial(t, 400)
			p.crowded = true
			p.fillLog(t, (8+128)*512+behind)
			fill(t, p.f, left)
			p.wontTakeLong(t)
			for k, n := range []int{mostOfEvent, 3000, 1000, 1000, 496, 495, 20, 20, mostOfEvent} {
				p.mayTake(t, longEvent(byte(k), n))
			}
			p.wontTakeLong(t)
			p.behind(t)
		}
	}
}

// P11.1: a snapshot for which there are too few blocks is refused, and nothing
// has changed, even if it lacks but one; it is taken if there are just enough.
func TestSnapshotOnFullDisk(t *testing.T) {
	t.Parallel()
	for _, w := range append(worlds(), longWorld(5, 500), longWorld(5, 501), longWorld(5, 60000), longWorld(5, 69620), longWorld(5, 69621)) {
		for _, snap := range []*api.World{nil, longWorld(6, 5000)} {
			p := newTrial(t, 400)
			p.snapshot(t, snap)
			p.some(t, 3)
			need := blocks(12 + len(codec.World(w)))
			for left := max(0, need-2); left < need; left++ {
				fill(t, p.f, left)
				p.wontStand(t, w, api.ErrFull)
				p.same(t)
				p = p.behind(t)
				refused(t, "Snapshot", p.s.Snapshot(w), api.ErrFull)
				p.same(t)
				unfill(t, p.f)
			}
			fill(t, p.f, need)
			p.snapshot(t, w)
			p.same(t)
			p.behind(t)
		}
	}
}

// P11.1: a snapshot is refused on each amount of room that is too little.
func TestSnapshotLacksMuch(t *testing.T) {
	w := longWorld(1, 20000)
	need := blocks(12 + 20000)
	for left := range need {
		p := newTrial(t, 200)
		p.some(t, 2)
		p.snapshot(t, town())
		p.some(t, 2)
		fill(t, p.f, left)
		for range 2 {
			p.wontStand(t, w, api.ErrFull)
			if free, _ := p.f.Free(); free != left {
				t.Errorf("%d blocks are free, %d were", free, left)
			}
		}
		p.behind(t)
	}
}

// P11.1: a disk that is filled up by events keeps all that it took; a snapshot
// makes room again.
func TestFillUp(t *testing.T) {
	t.Parallel()
	for _, n := range []int{10, 100, 300, 495, 1000, 3000, mostOfEvent} {
		for _, left := range []int{50, 100} {
			p := newTrial(t, 200)
			p.snapshot(t, longWorld(n, 9000))
			fill(t, p.f, left)
			for p.s.Append(longEvent(byte(len(p.all)), n)) == nil {
				p.all = append(p.all, longEvent(byte(len(p.all)), n))
			}
			p.wontTake(t, longEvent(0, n), api.ErrFull)
			for k := range 10 {
				if e := longEvent(byte(k), max(10, 3000>>k)); p.s.Append(e) == nil {
					p.all = append(p.all, e)
				}
			}
			p.same(t)
			if free, _ := p.f.Free(); free > 1 || len(p.all)*(n+16) < (left-9)*512 {
				t.Errorf("%d events of %d bytes, %d blocks left", len(p.all), n, free)
			}
			p = p.behind(t)
			p.wontStand(t, longWorld(2, 9000), api.ErrFull)
			unfill(t, p.f)
			p.snapshot(t, world(3))
			p.same(t)
			p.append(t, longEvent(1, mostOfEvent), longEvent(2, n))
			p.behind(t)
		}
	}
}

// P11.1: a journal that is as long as a file may be takes no more, though there
// is room on the disk; it does again behind a snapshot.
func TestLongestLog(t *testing.T) {
	t.Parallel()
	for _, n := range []int{40, 496, 1000, 4000, mostOfEvent} {
		p := newTrial(t, 400)
		for round := range 3 {
			k := 0
			for p.logSize()+16+n <= most {
				p.append(t, longEvent(byte(k), n))
				k++
			}
			p.wontTake(t, longEvent(0, n), api.ErrFull)
			rest := most - p.logSize()
			for _, more := range []int{1, 2, 300} {
				if m := rest - 16 + more; m >= 10 && m <= mostOfEvent {
					p.wontTake(t, longEvent(1, m), api.ErrFull)
				}
			}
			if rest >= 16+10 {
				p.append(t, longEvent(2, rest-16))
			}
			p.wontTake(t, api.Event{}, api.ErrFull)
			p.wontTake(t, longEvent(1, mostOfEvent), api.ErrFull)
			p.wontTake(t, longEvent(1, mostOfEvent+1), api.ErrFull)
			p.holds(t)
			p.sync(t)
			p = p.crash(t, nil)
			p.wontTake(t, longEvent(1, max(10, rest)), api.ErrFull)
			p.snapshot(t, longWorld(round, 3000*round+100))
			p.holds(t)
		}
	}
}

// P11.1, P0.2: an event that is longer than a record may be, where not even the
// least one has room: on a full disk, and in a journal that is as long as a file
// may be. With room there it is too big again.
func TestFullAheadOfBig(t *testing.T) {
	t.Parallel()
	for _, sectors := range []int{128, 200, 400, 1000} {
		p := newTrial(t, sectors)
		p.crowded = true
		fillFile(t, p.f, "/other", 12)
		p.wontTakeLong(t)
		for n := 1000; n >= 0; {
			if e := (api.Event{Text: strings.Repeat("x", n)}); p.s.Append(e) == nil {
				p.all = append(p.all, e)
			} else {
				n--
			}
		}
		p.wontTake(t, api.Event{}, api.ErrFull)
		for _, n := range []int{mostOfEvent, mostOfEvent + 1, mostOfEvent + 9, 5000, most, 1 << 20} {
			p.wontTake(t, longEvent(1, n), api.ErrFull)
		}
		p.holds(t)
		p.sync(t)
		p = p.crash(t, nil)
		p.wontTake(t, longEvent(1, 5000), api.ErrFull)
		well(t, p.f.Unlink("/other"))
		p.snapshot(t, nil)
		for _, n := range []int{mostOfEvent + 1, mostOfEvent + 9, 5000, most, 1 << 20} {
			p.wontTake(t, longEvent(1, n), api.ErrBig)
		}
		p.append(t, longEvent(1, mostOfEvent))
		p.holds(t)
	}
}

// P11.1, P0.2: the same at and beside the lengths of a log at which the longest
// record is the last one that a file holds.
func TestFullAheadOfBigAtTheEnd(t *testing.T) {
	t.Parallel()
	for more := -3; more <= 3; more++ {
		p := newTrial(t, 400)
		p.fillLog(t, most-4096+more)
		want := api.ErrBig
		if more > 0 {
			want = api.ErrFull
		}
		p.wontTake(t, longEvent(3, mostOfEvent+1), want)
		p.wontTake(t, longEvent(3, 1<<18), want)
		if more > 0 {
			p.wontTake(t, longEvent(3, mostOfEvent), want)
		} else {
			p.append(t, longEvent(3, mostOfEvent))
		}
		p.wontTakeLong(t)
		p.holds(t)
	}
}

// P11.1: no node is left for a snapshot.
func TestNoNode(t *testing.T) {
	p := newTrial(t, 200)
	p.some(t, 3)
	for k := 0; ; k++ {
		err := p.f.Create(fmt.Sprint("/n", k))
		if errors.Is(err, api.ErrFull) {
			break
		}
		well(t, err)
	}
	for range 3 {
		p.wontStand(t, town(), api.ErrFull)
		p.some(t, 1)
		p.same(t)
		p = p.behind(t)
	}
	p.wontStand(t, longWorld(1, 200000), api.ErrBig)
	well(t, p.f.Unlink("/n5"))
	p.snapshot(t, town())
	p.same(t)
	// The node is /snap's now, and the next one needs one beside it.
	p.wontStand(t, world(1), api.ErrFull)
	well(t, p.f.Unlink("/n6"))
	for k := range 3 {
		p.snapshot(t, world(k))
		p.same(t)
	}
	p.behind(t)
}

// P11.1: no block is left for the name of /new: the root has 16 in each.
func TestNoNameForNew(t *testing.T) {
	p := newTrial(t, 200)
	for k := range 13 {
		well(t, p.f.Create(fmt.Sprint("/n", k)))
	}
	p.some(t, 3)
	fill(t, p.f, 1)
	// The block goes to the name, and stays the root's; the file has none.
	refused(t, "Snapshot", p.s.Snapshot(town()), api.ErrFull)
	p.same(t)
	p.wontStand(t, world(1), api.ErrFull)
	p = p.behind(t)
	p.wontStand(t, world(1), api.ErrFull)
	unfill(t, p.f)
	p.snapshot(t, world(1))
	p.behind(t)
}

// P11.1: all descriptors are taken: nothing can be written, and nothing changes.
func TestNoDescriptor(t *testing.T) {
	p := newTrial(t, 200)
	p.some(t, 3)
	p.snapshot(t, town())
	p.some(t, 2)
	for range 8 {
		_, err := p.f.Open("/log")
		well(t, err)
	}
	for range 3 {
		p.wontTake(t, event(1), api.ErrFull)
		p.wontTake(t, longEvent(1, mostOfEvent+1), api.ErrFull)
		p.wontStand(t, world(1), api.ErrFull)
		p.wontStand(t, longWorld(1, 200000), api.ErrBig)
		well(t, p.s.Sync())
	}
	well(t, p.f.Close(3))
	p.some(t, 2)
	p.snapshot(t, world(1))
	p.some(t, 2)
	p.behind(t).goesOn(t)
}
