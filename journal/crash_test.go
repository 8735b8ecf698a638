package journal_test

import (
	"fmt"
	"math/rand/v2"
	"slices"
	"testing"

	"lychgate/api"
	"lychgate/blockdev"
	"lychgate/fs"
	"lychgate/journal"
)

// trial is a journal, and what is known of it: all its records, how many of
// them are sure to last, and whether the file may last with a spoilt end that
// was cut off.
type trial struct {
	d      *blockdev.Disk
	f      *fs.FS
	j      *journal.Journal
	l      [][]byte
	sure   int
	spoilt bool
}

func newTrial(t testing.TB, sectors int) *trial {
	t.Helper()
	d, f := made(t, sectors)
	return &trial{d: d, f: f, j: opened(t, f, "/j")}
}

func (p *trial) append(t testing.TB, b []byte) {
	t.Helper()
	well(t, p.j.Append(b))
	p.l = append(p.l, b)
}

func (p *trial) sync(t testing.TB) {
	t.Helper()
	err := p.f.Sync()
	if p.d.Dead() {
		refused(t, "Sync", err, api.ErrBroken)
		return
	}
	well(t, err)
	p.sure, p.spoilt = len(p.l), false
}

// crash answers the journal that a crash leaves. It has a front of all records,
// with all that are sure to last, and its file has no part of another one.
func (p *trial) crash(t testing.TB, picks []bool) *trial {
	t.Helper()
	q := &trial{d: p.d.Crash(picks), sure: p.sure, spoilt: p.spoilt}
	q.f = mounted(t, q.d)
	size := 0
	if fd, err := q.f.Open("/j"); err == nil {
		size, err = q.f.Size(fd)
		well(t, err, q.f.Close(fd))
	}
	q.j = opened(t, q.f, "/j")
	q.l = q.j.Records()
	if size != q.j.Size() && !p.spoilt {
		t.Fatalf("behind a crash the file has %d bytes, of which %d are whole records", size, q.j.Size())
	}
	if n := len(q.l); n < p.sure || n > len(p.l) || !same(q.l, p.l[:n]) {
		t.Fatalf("behind a crash there are %d records, or others, of %d, of which %d last", n, len(p.l), p.sure)
	}
	holds(t, q.f, "/j", q.j, q.l)
	return q
}

// crashes checks what each crash leaves, or some, if too many writes wait, and
// that it goes on.
func (p *trial) crashes(t testing.TB) {
	t.Helper()
	n := p.d.Waiting()
	for set := range min(1<<min(n, 20), 24) {
		picks := make([]bool, n)
		for i := range picks {
			switch {
			case n <= 4:
				picks[i] = set>>i&1 > 0
			case set < 2:
				picks[i] = set > 0
			default:
				picks[i] = (i*i*7+i*set)%11 > set%11
			}
		}
		q := p.crash(t, picks)
		q.append(t, []byte("behind a crash"))
		q.append(t, filled(set, 700))
		q.sync(t)
		if r := q.crash(t, nil); len(r.l) != len(q.l) {
			t.Errorf("%d records, want %d", len(r.l), len(q.l))
		}
	}
}

// P10.2: whatever was appended lasts with the file system's Sync, whole.
func TestSync(t *testing.T) {
	p := newTrial(t, 300)
	p.sync(t)
	for _, b := range samples() {
		p.append(t, b)
		p.sync(t)
		p.crashes(t)
	}
	if len(p.crash(t, nil).l) != len(samples()) {
		t.Error("not all lasts")
	}
}

// P10.2: nothing but a Sync makes it last for sure, and what is lost is lost
// from the end on.
func TestWithoutSync(t *testing.T) {
	p := newTrial(t, 300)
	for _, b := range samples()[:5] {
		p.append(t, b)
	}
	if n := len(p.crash(t, nil).l); n != 0 {
		t.Errorf("%d records last", n)
	}
	p.sync(t)
	for _, b := range samples() {
		p.append(t, b)
		p.crashes(t)
		if n := len(p.crash(t, nil).l); n != 5 {
			t.Errorf("%d records last", n)
		}
	}
	// More than a group of the log holds.
	for k := range 15 {
		p.append(t, filled(k, 4000))
		p.crashes(t)
	}
}

// cutOff does something with the power cut off behind each number of writes,
// and checks all crashes.
func cutOff(t *testing.T, start func() *trial, do func(p *trial)) {
	t.Helper()
	for cut := 0; ; cut++ {
		p := start()
		p.d.Limit(cut)
		do(p)
		p.crashes(t)
		if t.Failed() {
			t.Fatalf("the power went behind %d writes", cut)
		}
		if !p.d.Dead() {
			return
		}
	}
}

// P10.2: a record that the power cuts off, at any write, is there whole or not
// at all: one of most bytes too, and one that is the first on an indirect block.
func TestAppendIsCutOff(t *testing.T) {
	t.Parallel()
	for _, ahead := range []int{0, 1, 500, 4080, 8 * 512} {
		start := func() *trial {
			p := newTrial(t, 200)
			for left := ahead; left > 0; left -= 4088 {
				p.append(t, filled(1, min(left, 4088)))
			}
			p.sync(t)
			return p
		}
		for _, n := range []int{0, 1, 512, 4088} {
			cutOff(t, start, func(p *trial) {
				p.append(t, filled(2, n))
				p.sync(t)
				p.append(t, []byte("behind"))
			})
			cutOff(t, start, func(p *trial) {
				p.append(t, filled(3, n))
				p.append(t, []byte("behind"))
				p.append(t, filled(4, n))
				p.sync(t)
				p.append(t, []byte("lost"))
			})
		}
	}
}

// P10.2: a spoilt end that is cut off while the power goes takes no whole record
// with it, and what is appended behind it is as whole.
func TestMendingIsCutOff(t *testing.T) {
	t.Parallel()
	l := [][]byte{[]byte("one"), filled(1, 600)}
	for _, behind := range [][]byte{{1}, framed(filled(2, 900))[:800], filled(3, 9000), framed(filled(4, 4088))[:4095]} {
		cutOff(t, func() *trial {
			p := &trial{l: slices.Clone(l), sure: len(l), spoilt: true}
			p.d, p.f = made(t, 200)
			lay(t, p.f, "/j", append(stream(l...), behind...))
			well(t, p.f.Sync())
			return p
		}, func(p *trial) {
			p.j = opened(t, p.f, "/j")
			p.append(t, filled(5, 850))
			p.sync(t)
			p.append(t, nil)
			p.sync(t)
		})
	}
}

// P10.2: the file may be made, cut off and appended to in one Sync.
func TestMakingIsCutOff(t *testing.T) {
	cutOff(t, func() *trial {
		p := &trial{}
		p.d, p.f = made(t, 128)
		return p
	}, func(p *trial) {
		p.j = opened(t, p.f, "/j")
		p.append(t, filled(1, 1000))
		p.append(t, []byte("two"))
		p.sync(t)
	})
}

// P10.2: any calls, in any order, with crashes and spoilt ends between them.
func TestAnyOrder(t *testing.T) {
	for seed := range 60 {
		r := rand.New(rand.NewPCG(uint64(seed), 10))
		p := newTrial(t, 128+r.IntN(300))
		for range 150 {
			p.anyStep(t, r)
			if t.Failed() {
				t.Fatalf("seed %d", seed)
			}
		}
		holds(t, p.f, "/j", p.j, p.l)
	}
}

func (p *trial) anyStep(t *testing.T, r *rand.Rand) {
	t.Helper()
	switch k := r.IntN(20); {
	case k < 12:
		p.anyRecord(t, filled(r.IntN(256), []int{0, 3, 50, 300, 504, 2000, 4088, 4089}[r.IntN(8)]))
	case k < 14:
		well(t, p.j.Close())
		p.j = opened(t, p.f, "/j")
		holds(t, p.f, "/j", p.j, p.l)
	case k < 15:
		well(t, p.j.Close())
		p.anyEnd(t, r)
		p.j = opened(t, p.f, "/j")
		holds(t, p.f, "/j", p.j, p.l)
	case k < 18:
		p.sync(t)
	default:
		picks := make([]bool, p.d.Waiting())
		for i := range picks {
			picks[i] = r.IntN(2) > 0
		}
		*p = *p.crash(t, picks)
	}
}

// anyRecord appends a record, for which there may be no room.
func (p *trial) anyRecord(t *testing.T, b []byte) {
	t.Helper()
	blocks, _ := p.f.Free()
	switch end := p.j.Size() + 8 + len(b); {
	case len(b) > 4088 || end > 200*512:
		wontTake(t, p.f, p.j, len(b), api.ErrBig)
	case (end+511)/512-(p.j.Size()+511)/512 > blocks:
		wontTake(t, p.f, p.j, len(b), api.ErrFull)
	case p.j.Append(b) == nil:
		p.l = append(p.l, b)
	case blocks > 12:
		t.Errorf("%d bytes are refused, though %d blocks are left", len(b), blocks)
	}
}

// anyEnd spoils the end of the file: some of it goes, or something comes behind.
func (p *trial) anyEnd(t *testing.T, r *rand.Rand) {
	t.Helper()
	b := content(t, p.f, "/j")
	if less := r.IntN(700); less <= len(b) && r.IntN(2) > 0 {
		b = b[:len(b)-less]
		for len(stream(p.l...)) > len(b) {
			p.l = p.l[:len(p.l)-1]
		}
		p.sure = min(p.sure, len(p.l))
	}
	if blocks, _ := p.f.Free(); blocks > 4 && len(b) < 100000 {
		b = append(b, fmt.Sprint("junk ", r.IntN(1000))...)
	}
	lay(t, p.f, "/j", b)
	// A crash may find the file on its way otherwise.
	p.sync(t)
	p.spoilt = true
}
