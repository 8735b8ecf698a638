package store_test

import (
	"math/rand/v2"
	"slices"
	"testing"

	"lychgate/api"
	"lychgate/fs"
	"lychgate/store"
)

// clone answers a trial of the same kind on a disk of its own, as a crash leaves
// it of which nothing waits.
func (p *trial) clone(t testing.TB) *trial {
	t.Helper()
	if p.d.Waiting() > 0 {
		t.Fatal("something waits")
	}
	q := *p
	q.d = p.d.Crash(nil)
	q.f = mounted(t, q.d)
	q.s = opened(t, q.f)
	q.all, q.snaps = slices.Clone(p.all), slices.Clone(p.snaps)
	return &q
}

// cutOff does something with the power cut off behind each number of writes, and
// checks what crashes leave: so many of each.
func cutOff(t *testing.T, start *trial, atMost int, do func(p *trial)) {
	t.Helper()
	for cut := 0; ; cut++ {
		p := start.clone(t)
		p.d.Limit(cut)
		do(p)
		holds(t, p.s, p.state())
		p.crashes(t, atMost)
		if t.Failed() {
			t.Fatalf("the power went behind %d writes", cut)
		}
		if !p.d.Dead() {
			return
		}
	}
}

// starts are stores with and without a snapshot and events, all of which last.
func starts(t *testing.T) []*trial {
	t.Helper()
	var l []*trial
	for k := range 4 {
		p := newTrial(t, 200)
		if k > 0 {
			p.some(t, k)
			p.snapshot(t, []*api.World{nil, town(), longWorld(90, 9000), nil}[k])
		}
		if k%2 > 0 {
			p.some(t, 3)
		}
		p.sync(t)
		l = append(l, p)
	}
	return l
}

// P11.2: events that the power cuts off, at any write of a Sync and of what the
// file system writes before.
func TestAppendIsCutOff(t *testing.T) {
	t.Parallel()
	for _, start := range starts(t) {
		for _, n := range []int{10, 500, mostOfEvent} {
			atMost := 8
			if n == 10 {
				// These are all picks of the few sectors that it takes.
				atMost = 32
			}
			cutOff(t, start, atMost, func(p *trial) {
				p.append(t, longEvent(1, n))
				p.sync(t)
				p.some(t, 1)
			})
			cutOff(t, start, 6, func(p *trial) {
				p.append(t, longEvent(2, n), longEvent(3, n))
				p.some(t, 1)
				p.sync(t)
				p.append(t, longEvent(4, n))
				p.sync(t)
			})
		}
	}
}

// P11.2: so many events without a Sync that the file system writes some of them.
func TestManyAreCutOff(t *testing.T) {
	t.Parallel()
	start := newTrial(t, 300)
	cutOff(t, start, 3, func(p *trial) {
		for k := range 14 {
			p.append(t, longEvent(byte(k), 3500))
			p.some(t, 1)
		}
		p.sync(t)
	})
}

// P11.2: a snapshot that the power cuts off at any write: worlds of many lengths,
// with events ahead that were not synced, and some behind.
func TestSnapshotIsCutOff(t *testing.T) {
	t.Parallel()
	for _, start := range starts(t) {
		for _, w := range []*api.World{nil, {}, town(), longWorld(1, 3000), longWorld(2, 12000)} {
			cutOff(t, start, 8, func(p *trial) { p.snapshot(t, w) })
			cutOff(t, start, 4, func(p *trial) {
				p.some(t, 2)
				p.snapshot(t, w)
				p.some(t, 2)
				p.sync(t)
			})
		}
	}
}

// P11.2: the same of a snapshot that is longer than the log's group, twice.
func TestLongSnapshotIsCutOff(t *testing.T) {
	t.Parallel()
	start := newTrial(t, 400)
	start.some(t, 3)
	start.snapshot(t, longWorld(1, 30000))
	start.some(t, 3)
	start.sync(t)
	cutOff(t, start, 3, func(p *trial) {
		p.some(t, 1)
		p.snapshot(t, longWorld(2, 50000))
		p.some(t, 1)
	})
}

// P11.2: snapshots one right behind the other: it is the last one that is found,
// or the one ahead of it.
func TestSnapshotsAreCutOff(t *testing.T) {
	t.Parallel()
	for _, start := range starts(t) {
		cutOff(t, start, 7, func(p *trial) {
			for k := range 4 {
				if p.d.Dead() {
					break
				}
				p.snapshot(t, longWorld(k, 400*k+300))
				p.some(t, k)
			}
		})
	}
}

// P11.2: whatever crash leaves, the Open behind it may be cut off as well, at any
// write, with any picks, and again.
func TestOpenIsCutOff(t *testing.T) {
	t.Parallel()
	for _, start := range starts(t) {
		for cut := 0; ; cut++ {
			p := start.clone(t)
			p.d.Limit(cut)
			p.some(t, 2)
			p.snapshot(t, longWorld(5, 3000))
			if !p.d.Dead() {
				break
			}
			n := p.d.Waiting()
			for k := range kinds(n, 3) {
				q := p.crash(t, everySome(n, k))
				q.d = p.d.Crash(everySome(n, k))
				q.openIsCutOff(t)
			}
			if t.Failed() {
				t.Fatalf("the power went behind %d writes", cut)
			}
		}
	}
}

// openIsCutOff mounts and opens what is on the disk with the power cut off behind
// each number of writes. A Sync makes what Open did last.
func (p *trial) openIsCutOff(t *testing.T) {
	t.Helper()
	for cut := 0; ; cut++ {
		q := *p
		q.d = p.d.Crash(nil)
		q.d.Limit(cut)
		q.snaps = slices.Clone(p.snaps)
		f, err := fs.Mount(q.d)
		if err == nil {
			q.s, err = store.Open(f)
			well(t, err)
			holds(t, q.s, p.state())
			_ = q.s.Sync()
		}
		n := q.d.Waiting()
		for k := range kinds(n, 4) {
			r := q.crash(t, everySome(n, k))
			holds(t, r.s, p.state())
			if k == 1 {
				r.goesOn(t)
			}
		}
		if t.Failed() {
			t.Fatalf("the power went behind %d writes of Open", cut)
		}
		if !q.d.Dead() {
			return
		}
	}
}

// P11.2: crashes between calls, with all picks of what waits.
func TestCrashesBetween(t *testing.T) {
	for _, p := range starts(t) {
		for k := range 12 {
			p.some(t, 1)
			p.crashes(t, 8)
			if k%5 == 2 {
				p.snapshot(t, longWorld(k, 200*k+100))
				p.crashes(t, 8)
			}
			if k%3 == 1 {
				p.sync(t)
				p.crashes(t, 8)
			}
		}
	}
}

// P11.1, P11.2: a snapshot that is refused while it is written, as the last block
// lacks, and the power goes on the way: nothing has changed.
func TestRefusedSnapshotIsCutOff(t *testing.T) {
	t.Parallel()
	w := longWorld(1, 24000)
	start := newTrial(t, 200)
	start.crowded = true
	start.some(t, 2)
	start.snapshot(t, town())
	start.some(t, 2)
	fill(t, start.f, blocks(12+24000)-1)
	start.sync(t)
	cutOff(t, start, 5, func(p *trial) {
		p.append(t, api.Event{})
		refused(t, "Snapshot", p.s.Snapshot(w), api.ErrFull)
		p.append(t, api.Event{Kind: 1})
		p.sync(t)
	})
}

// P11.1, P11.2: any calls, in any order, with crashes between them.
func TestAnyOrder(t *testing.T) {
	t.Parallel()
	for seed := range 25 {
		r := rand.New(rand.NewPCG(uint64(seed), 11))
		p := newTrial(t, 128+r.IntN(300))
		for k := range 120 {
			p.anyStep(t, r)
			if t.Failed() {
				t.Fatalf("seed %d, step %d", seed, k)
			}
		}
		p.holds(t)
	}
}

func (p *trial) anyStep(t *testing.T, r *rand.Rand) {
	t.Helper()
	switch k := r.IntN(20); {
	case k < 11:
		p.anyEvent(t, r)
	case k < 14:
		p.anyWorld(t, r)
	case k < 16:
		p.s = opened(t, p.f)
		p.holds(t)
	case k < 18:
		p.sync(t)
	default:
		if r.IntN(2) > 0 {
			p.d.Limit(r.IntN(150))
			for range r.IntN(5) {
				p.anyEvent(t, r)
				p.anyWorld(t, r)
			}
		}
		picks := make([]bool, p.d.Waiting())
		for i := range picks {
			picks[i] = r.IntN(2) > 0
		}
		*p = *p.crash(t, picks)
	}
}

// anyEvent appends an event, for which there may be no room.
func (p *trial) anyEvent(t *testing.T, r *rand.Rand) {
	t.Helper()
	n := []int{10, 30, 100, 500, 2000, mostOfEvent, mostOfEvent + 1}[r.IntN(7)]
	e := longEvent(byte(r.IntN(26)), n)
	switch {
	case !p.hasRoom(min(n, mostOfEvent)):
		p.wontTake(t, e, api.ErrFull)
	case n > mostOfEvent:
		p.wontTake(t, e, api.ErrBig)
	default:
		p.append(t, e)
	}
}

// anyWorld hands in a world, for which there may be no room.
func (p *trial) anyWorld(t *testing.T, r *rand.Rand) {
	t.Helper()
	n := []int{-1, 50, 600, 4000, 9000, 20000, 50000, 102388, 102389}[r.IntN(9)]
	var w *api.World
	if n >= 0 {
		w = longWorld(r.IntN(100), n)
	}
	free, _ := p.f.Free()
	switch {
	case n > most-12:
		p.wontStand(t, w, api.ErrBig)
	case blocks(12+max(n, 0)) > free:
		p.wontStand(t, w, api.ErrFull)
	default:
		p.snapshot(t, w)
	}
}
