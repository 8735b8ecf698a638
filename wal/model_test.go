package wal_test

import (
	"errors"
	"maps"
	"testing"

	"lychgate/api"
	"lychgate/blockdev"
	"lychgate/wal"
)

// state tells of some home sectors by which one byte they are full of.
type state map[int]byte

// model does what the chapter says of a log, without a disk below it. may are
// the states that a crash may leave; the last one is the newest.
type model struct {
	seen    state
	waiting state
	marked  state
	may     []state
}

func newModel() *model {
	return &model{seen: state{}, waiting: state{}, marked: state{}, may: []state{{}}}
}

// read answers what sector i holds, with what waits laid over it.
func (m *model) read(i int) byte {
	if c, ok := m.waiting[i]; ok {
		return c
	}
	return m.seen[i]
}

func (m *model) sync(ok bool) {
	maps.Copy(m.seen, m.waiting)
	m.waiting, m.marked = state{}, state{}
	m.may = append(m.may, maps.Clone(m.seen))
	if ok {
		m.may = m.may[len(m.may)-1:]
	}
}

// crash takes what the disk was found as for the state; it tells whether the
// disk may be so.
func (m *model) crash(t *testing.T, l *wal.Log, places []int) bool {
	found := state{}
	for _, i := range places {
		if b, _ := l.Read(i); len(b) == api.Sector && b[0] != 0 {
			found[i] = b[0]
		}
	}
	for _, s := range m.may {
		s = maps.Clone(s)
		maps.DeleteFunc(s, func(_ int, c byte) bool { return c == 0 })
		if maps.Equal(s, found) {
			*m = *newModel()
			m.seen, m.may = found, []state{maps.Clone(found)}
			return true
		}
	}
	return false
}

// player plays a script of bytes to a log and to its model.
type player struct {
	script []byte
	places []int
	d      *blockdev.Disk
	l      *wal.Log
	m      *model
}

func (p *player) next() int {
	if len(p.script) == 0 {
		return 0
	}
	c := p.script[0]
	p.script = p.script[1:]
	return int(c)
}

func (p *player) picks() []bool {
	l := make([]bool, p.d.Waiting())
	x := uint32(p.next())
	for k := range l {
		x = x*1664525 + 1013904223
		l[k] = x>>30 != 0
	}
	return l
}

// crash lets the power go and come back, perhaps while the log opens, too.
func (p *player) crash(t *testing.T) {
	p.d = p.d.Crash(p.picks())
	for range p.next() % 3 {
		p.d.Limit(p.next() % 12)
		_, _ = wal.Open(p.d)
		p.d = p.d.Crash(p.picks())
	}
	p.l = open(t, p.d)
	if !p.m.crash(t, p.l, p.places) {
		t.Error("home is as behind no Sync that it may be of")
	}
}

func (p *player) put(t *testing.T) {
	i, c := p.places[p.next()%len(p.places)], byte(p.next())
	err := p.l.Put(i, filled(c))
	_, there := p.m.waiting[i]
	if full := len(p.m.waiting) == api.MaxGroup && !there; full != errors.Is(err, api.ErrFull) || !full && err != nil {
		t.Errorf("Put beside %d: %v", len(p.m.waiting), err)
	}
	if err == nil {
		p.m.waiting[i] = c
	}
}

func (p *player) sync(t *testing.T) {
	n := p.d.Writes()
	most := 2*len(p.m.waiting) + 8
	err := p.l.Sync()
	if (err == nil) == p.d.Dead() || err != nil && !errors.Is(err, api.ErrBroken) {
		t.Errorf("Sync: %v, dead %v", err, p.d.Dead())
	}
	if p.d.Writes()-n > most {
		t.Errorf("%d writes, may be %d", p.d.Writes()-n, most)
	}
	p.m.sync(err == nil)
}

func (p *player) step(t *testing.T) {
	switch k := p.next() % 32; {
	case k < 12:
		p.put(t)
	case k < 13:
		for range 44 {
			p.put(t)
		}
	case k < 16:
		p.l.Mark()
		p.m.marked = maps.Clone(p.m.waiting)
	case k < 19:
		p.l.Back()
		p.m.waiting = maps.Clone(p.m.marked)
	case k < 24:
		p.sync(t)
	case k < 27:
		p.d.Limit(p.next()%40 - 5)
	default:
		p.crash(t)
	}
}

func play(t *testing.T, script []byte) {
	p := &player{script: script, m: newModel()}
	sectors := api.MinSectors + p.next()%4
	for i := api.LogSectors; i < sectors; i++ {
		if p.next()%2 == 0 || i == sectors-1 {
			p.places = append(p.places, i)
		}
	}
	p.d, p.l = fresh(t, sectors)
	for len(p.script) > 0 && !t.Failed() {
		p.step(t)
		if p.l.Waiting() != len(p.m.waiting) {
			t.Errorf("Waiting %d, want %d", p.l.Waiting(), len(p.m.waiting))
		}
		for _, i := range p.places {
			if b, err := p.l.Read(i); err != nil || string(b) != string(filled(p.m.read(i))) {
				t.Errorf("sector %d: %v, error %v, want all %d", i, b, err, p.m.read(i))
			}
		}
	}
}

func TestAgainstModel(t *testing.T) {
	for seed := range 300 {
		script := noise(seed, 600)
		play(t, script)
		if t.Failed() {
			t.Fatalf("script %v", script)
		}
	}
}

func FuzzAgainstModel(f *testing.F) {
	f.Add(noise(1, 300))
	f.Add(noise(2, 900))
	f.Fuzz(play)
}
