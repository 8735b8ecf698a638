// Package blockdev is a raw disk whose power may go: see doc/01-blockdev.md.
package blockdev

import (
	"slices"

	"lychgate/api"
)

// Disk is a row of sectors with a cache of writes in front of it. Sectors are
// strings because those can't be changed: a crashed disk shares them with the
// old one, and only the answers need copies.
type Disk struct {
	lasting []string // what a crash leaves whatever it picks
	newest  []string // the same, with the cache laid over it
	cache   []change
	writes  int
	limited bool
	left    int // writes until the power goes, if limited
}

// change is a write that no flush has made last yet.
type change struct {
	at     int
	sector string
}

// New makes a disk of zeros, or nil if a disk can't have so many sectors.
func New(sectors int) *Disk {
	if sectors < 1 || sectors > api.MaxSectors {
		return nil
	}
	blank := string(make([]byte, api.Sector))
	return holding(slices.Repeat([]string{blank}, sectors))
}

// holding makes a disk on which these sectors last; it takes over the list.
func holding(sectors []string) *Disk {
	return &Disk{lasting: sectors, newest: slices.Clone(sectors)}
}

// Len tells how many sectors there are.
func (d *Disk) Len() int {
	if d == nil {
		return 0
	}
	return len(d.lasting)
}

func (d *Disk) has(i int) bool {
	return i >= 0 && i < d.Len()
}

// Read answers a copy of what sector i was last told to hold.
func (d *Disk) Read(i int) ([]byte, error) {
	if !d.has(i) {
		return nil, api.ErrRange
	}
	return []byte(d.newest[i]), nil
}

// Write puts a sector into the cache; without power it is lost, in silence.
func (d *Disk) Write(i int, b []byte) error {
	if !d.has(i) || len(b) != api.Sector {
		return api.ErrRange
	}
	if d.Dead() {
		return nil
	}
	sector := string(b)
	d.newest[i] = sector
	d.cache = append(d.cache, change{at: i, sector: sector})
	d.writes++
	if d.limited {
		d.left--
	}
	return nil
}

// Flush makes what lies in the cache last.
func (d *Disk) Flush() {
	if d.Dead() {
		return
	}
	for _, c := range d.cache {
		d.lasting[c.at] = c.sector
	}
	d.cache = nil
}

// Writes tells how many writes there were ever.
func (d *Disk) Writes() int {
	if d == nil {
		return 0
	}
	return d.writes
}

// Waiting tells how many writes lie in the cache.
func (d *Disk) Waiting() int {
	if d == nil {
		return 0
	}
	return len(d.cache)
}

// Limit lets the power go behind n more writes; below 0 it never goes. Power
// that is off stays off: only a crash brings a disk back.
func (d *Disk) Limit(n int) {
	if d.Dead() {
		return
	}
	d.limited = n >= 0
	d.left = max(n, 0)
}

// Dead tells whether the power is off.
func (d *Disk) Dead() bool {
	return d == nil || d.limited && d.left == 0
}

// Crash answers the disk that is found when the power is back: picks tells
// which of the waiting writes had come through.
func (d *Disk) Crash(picks []bool) *Disk {
	if d == nil {
		return nil
	}
	sectors := slices.Clone(d.lasting)
	for k, c := range d.cache[:min(len(d.cache), len(picks))] {
		if picks[k] {
			sectors[c.at] = c.sector
		}
	}
	return holding(sectors)
}
