package store_test

import (
	"reflect"
	"slices"
	"testing"

	"lychgate/api"
	"lychgate/blockdev"
	"lychgate/fs"
	"lychgate/store"
)

// trial is a store, and what is known of it: all events that there ever were,
// how many of them are sure to last, and the snapshots that a crash may leave:
// the last one that is sure to last, and those behind it.
type trial struct {
	d     *blockdev.Disk
	f     *fs.FS
	s     *store.Store
	all   []api.Event
	sure  int
	snaps []snap
	// There are other files on the file system, too.
	crowded bool
}

// snap is a world that stands for so many events.
type snap struct {
	world  *api.World
	number int
}

func newTrial(t testing.TB, sectors int) *trial {
	t.Helper()
	d, f := made(t, sectors)
	return &trial{d: d, f: f, s: opened(t, f), snaps: []snap{{}}}
}

// state answers what the store shall tell.
func (p *trial) state() state {
	last := p.snaps[len(p.snaps)-1]
	return state{world: last.world, events: p.all[last.number:], number: len(p.all)}
}

// holds checks what the store tells, and what another one does that is opened
// on the same file system.
func (p *trial) holds(t testing.TB) {
	t.Helper()
	holds(t, p.s, p.state())
	s := opened(t, p.f)
	holds(t, s, p.state())
	if !p.crowded {
		tidy(t, p.d, p.f, s)
	}
}

func (p *trial) append(t testing.TB, l ...api.Event) {
	t.Helper()
	for _, e := range l {
		well(t, p.s.Append(e))
		p.all = append(p.all, e)
	}
}

// some appends so many events.
func (p *trial) some(t testing.TB, n int) {
	t.Helper()
	for range n {
		p.append(t, event(len(p.all)))
	}
}

func (p *trial) sync(t testing.TB) {
	t.Helper()
	p.lasts(t, p.s.Sync())
}

func (p *trial) snapshot(t testing.TB, w *api.World) {
	t.Helper()
	err := p.s.Snapshot(w)
	p.snaps = append(p.snaps, snap{world: plain(w), number: len(p.all)})
	p.lasts(t, err)
}

// lasts checks an error of a call that makes all last.
func (p *trial) lasts(t testing.TB, err error) {
	t.Helper()
	if p.d.Dead() {
		refused(t, "on a dead disk", err, api.ErrBroken)
		return
	}
	well(t, err)
	p.sure, p.snaps = len(p.all), p.snaps[len(p.snaps)-1:]
}

// crash answers the store that a crash leaves. Its snapshot is one of those that
// may be, and its events are a front of those behind that, with all that are
// sure to last.
func (p *trial) crash(t testing.TB, picks []bool) *trial {
	t.Helper()
	q := &trial{d: p.d.Crash(picks), crowded: p.crowded}
	q.f = mounted(t, q.d)
	q.s = opened(t, q.f)
	q.sure = int(q.s.Number())
	if q.sure < p.sure || q.sure > len(p.all) {
		t.Fatalf("behind a crash there are %d events of %d, of which %d last", q.sure, len(p.all), p.sure)
	}
	q.all = slices.Clone(p.all[:q.sure])
	found := snap{world: q.s.World(), number: q.sure - len(q.s.Events())}
	if !slices.ContainsFunc(p.snaps, func(s snap) bool {
		return s.number == found.number && reflect.DeepEqual(plain(s.world), plain(found.world))
	}) {
		t.Fatalf("behind a crash the snapshot is %.200v of %d events, none of %d that may be", found.world, found.number, len(p.snaps))
	}
	q.snaps = []snap{found}
	q.holds(t)
	return q
}

// goesOn checks that the store takes events and a snapshot, and has them behind
// another crash.
func (p *trial) goesOn(t testing.TB) {
	t.Helper()
	p.some(t, 2)
	p.sync(t)
	q := p.crash(t, nil)
	q.snapshot(t, longWorld(77, 700))
	q.some(t, 1)
	q.sync(t)
	q.crash(t, nil)
}

// crashes checks what each crash leaves, or so many of them, if too many writes
// wait, and that it goes on.
func (p *trial) crashes(t testing.TB, atMost int) {
	t.Helper()
	n := p.d.Waiting()
	for k := range kinds(n, atMost) {
		q := p.crash(t, everySome(n, k))
		if k%3 == 0 {
			q.goesOn(t)
		}
	}
}
