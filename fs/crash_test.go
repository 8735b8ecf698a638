package fs_test

import (
	"errors"
	"fmt"
	"testing"

	"lychgate/api"
	"lychgate/blockdev"
	"lychgate/fs"
)

// crashes calls f with each disk that a crash may leave, or with some, if too
// many writes wait.
func crashes(d *blockdev.Disk, f func(e *blockdev.Disk)) {
	n := d.Waiting()
	picks := make([]bool, n)
	if n <= 6 {
		for set := range 1 << n {
			for i := range picks {
				picks[i] = set>>i&1 > 0
			}
			f(d.Crash(picks))
		}
		return
	}
	for k := range 12 {
		for i := range picks {
			picks[i] = k == 1 || k > 1 && (i*i+k)%k > k/3
		}
		f(d.Crash(picks))
	}
}

// survives checks that each crash leaves what it may; with twice also one that
// comes while Mount brings home what the first one left.
func (p *trial) survives(t *testing.T, twice bool) {
	t.Helper()
	crashes(p.d, func(e *blockdev.Disk) {
		q := &trial{d: e, may: p.may}
		is := q.crash(t, nil)
		for cut := 0; twice; cut++ {
			again := e.Crash(nil)
			again.Limit(cut)
			_, err := fs.Mount(again)
			if !again.Dead() {
				break
			}
			if !errors.Is(err, api.ErrSmall) {
				t.Fatalf("Mount of a disk that dies: %v", err)
			}
			q := &trial{d: again, may: []string{is}}
			q.crash(t, nil)
			q.crash(t, []bool{true, false, true, true, false, true, true, true, false, true})
			q.crash(t, []bool{false, true, false, false, true})
		}
	})
}

// cutOff plays steps on a fresh file system with the power cut off behind each
// number of writes, or some of them, and checks all crashes at the end.
func cutOff(t *testing.T, before, l []step, some int) {
	t.Helper()
	for cut := 0; ; cut += some {
		p := newTrial(t, 160)
		for _, s := range before {
			p.play(t, s)
		}
		p.d.Limit(cut)
		for _, s := range l {
			p.play(t, s)
		}
		p.same(t)
		p.survives(t, cut%7 == 0)
		if t.Failed() {
			t.Fatalf("cut %d", cut)
		}
		if !p.d.Dead() {
			return
		}
	}
}

// P7.3: each operation, cut off in the Sync behind it or in the one ahead, is
// there whole or not at all.
func TestEachOperationCutOff(t *testing.T) {
	t.Parallel()
	before := []step{
		mkdir("/d"), create("/d/f"), mkdir("/e"), create("/x"), create("/y"), open("/x"), open("/d/f"),
		write(0, 3000, filled(1, 4096)), write(1, 0, filled(2, 900)), write(0, 136*512-9, filled(3, 600)), syncing(),
	}
	for _, s := range []step{
		mkdir("/new"), create("/d/new"), write(0, 0, filled(4, 4096)), write(0, 102400-4000, filled(5, 4000)), write(1, 700, filled(6, 3)),
		truncate(0, 0), truncate(0, 136*512-3), truncate(0, 3100), truncate(1, 90000),
		unlink("/y"), unlink("/e"), rename("/y", "/z"), rename("/d", "/e"), rename("/x", "/e/x"), rename("/x", "/y"), rename("/e", "/d/e"),
	} {
		cutOff(t, before, []step{s, syncing()}, 1)
		cutOff(t, before, []step{create("/d/one"), syncing(), s, syncing(), unlink("/d/one")}, 1)
	}
}

// P7.3: without a Sync, too, what is lost is lost from the end on, though more
// waits than a group of the log holds.
func TestCutOffWithoutSync(t *testing.T) {
	t.Parallel()
	l := []step{create("/x"), open("/x")}
	for k := range 9 {
		l = append(l, write(0, k*4000, filled(k, 4096)), create(fmt.Sprint("/n", k)))
	}
	l = append(l, truncate(0, 5000), rename("/n1", "/n2"), closing(0), unlink("/x"), mkdir("/d"), rename("/n3", "/d/x"))
	cutOff(t, nil, l, 2)
}

// P7.3: crashes between the operations, with and without a Sync ahead of them.
func TestCrashesBetween(t *testing.T) {
	for every := range 5 {
		p := newTrial(t, 128)
		for k, s := range stepsOf(noise(500+every, 700)) {
			p.play(t, s)
			if every > 0 && k%every == 0 {
				p.play(t, syncing())
			}
			p.crash(t, nil)
			p.crash(t, []bool{true, true, false, true, false, false, true})
		}
	}
}

// P7.3: behind a Sync all is there, and nothing but a Sync makes it so for sure.
func TestSync(t *testing.T) {
	d, f := made(t, 128)
	well(t, f, create("/x"))
	opened(t, f, "/x")
	for k := range 20 {
		well(t, f, write(0, k*100, filled(k, 100)))
		if k%3 == 0 {
			well(t, f, syncing())
			if got, want := dump(mounted(t, d.Crash(nil))), dump(f); got != want {
				t.Errorf("%q, want %q", got, want)
			}
		}
	}
	// Nothing waits, so there is nothing to write.
	well(t, f, syncing())
	n := d.Writes()
	well(t, f, syncing(), syncing())
	if d.Writes() != n {
		t.Errorf("%d writes for nothing", d.Writes()-n)
	}
}

// P7.3: many operations without a Sync work, and one Sync makes all last.
func TestManyWithoutSync(t *testing.T) {
	p := newTrial(t, 4096)
	var l []step
	for k := range 8 {
		l = append(l, create(fmt.Sprint("/n", k)), open(fmt.Sprint("/n", k)))
		for at := 0; at < 102400; at += 4096 {
			l = append(l, write(k, at, filled(k+at, 4096)))
		}
	}
	for _, s := range l {
		if got, want := s.do(p.f), s.do(p.m); got != want {
			t.Errorf("%s: %s, want %s", s.what, got, want)
		}
	}
	p.play(t, syncing())
	p.may = []string{dump(p.m.fresh())}
	p.crash(t, nil)
	// The greatest changes that there are: all goes.
	p.may = nil
	for k := range 8 {
		p.play(t, truncate(k, 1))
		p.play(t, closing(k))
		p.play(t, unlink(fmt.Sprint("/n", k)))
	}
	p.play(t, syncing())
	p.crash(t, nil)
}

// P7.3: each operation finds room in the log, whole, however many sectors wait
// for a Sync already; and what was ahead of it is not lost behind it.
func TestGroupIsFull(t *testing.T) {
	t.Parallel()
	before := []step{mkdir("/d"), create("/d/f"), mkdir("/e"), create("/x"), create("/y"), open("/x"), open("/d/f"), write(1, 100*512, filled(8, 4096))}
	for at := 0; at < 100*512; at += 4096 {
		before = append(before, write(0, at, filled(at, 4096)))
	}
	for _, s := range []step{
		mkdir("/new"), create("/d/new"), write(0, 100, filled(4, 4096)), write(0, 102400-4096-5, filled(5, 4096)), write(1, 700, filled(6, 3)),
		truncate(0, 0), truncate(0, 10*512+1), truncate(0, 102400), truncate(1, 100*512+3),
		unlink("/y"), unlink("/e"), rename("/y", "/z"), rename("/y", "/d/f2"), rename("/d", "/e"), rename("/x", "/y"), closing(0), open("/y"),
	} {
		for waiting := range api.MaxGroup + 2 {
			p := newTrial(t, 300)
			for _, s := range before {
				p.play(t, s)
			}
			p.play(t, syncing())
			// One more sector each, as the system stays as it is.
			for k := range waiting {
				p.play(t, write(0, k*512, []byte{byte(k)}))
			}
			p.play(t, s)
			p.same(t)
			p.crash(t, nil)
			p.play(t, syncing())
			p.crash(t, nil)
			if t.Failed() {
				t.Fatalf("%s, behind %d sectors that wait", s.what, waiting)
			}
		}
	}
}

// P7.3: on a disk that died all goes on in front, but no Sync is OK.
func TestDead(t *testing.T) {
	p := newTrial(t, 128)
	for _, s := range []step{create("/x"), open("/x"), write(0, 0, filled(1, 4096)), syncing(), create("/y")} {
		p.play(t, s)
	}
	p.d.Limit(0)
	for k := range 30 {
		p.play(t, write(0, k*1000, filled(k, 4000)))
		p.play(t, rename("/y", "/z"))
		p.play(t, rename("/z", "/y"))
		if k%7 == 3 {
			p.play(t, syncing())
			refuses(t, p.f, expect{syncing(), "not what it should be"})
		}
		p.same(t)
	}
	noFS(t, "a dead disk", p.d, api.ErrSmall)
	p.may = p.may[:1]
	p.crash(t, []bool{true, true, true})
}
