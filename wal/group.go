package wal

import (
	"maps"
	"slices"

	"lychgate/api"
	"lychgate/blockdev"
	"lychgate/crc"
)

// The log's first sector is its head: zeros while the log is empty, else it
// tells of the group in the sectors behind it. One sector lasts or does not,
// so it is the head that makes a group of many do the same.
const (
	headAt  = 0
	firstAt = 1 // of the group's sectors
)

// Where the numbers of a head stand: a sum over the rest of the head and the
// whole group, how many sectors the group has, and the home of each, rising.
const (
	sumAt   = 0
	countAt = 4
	homesAt = 6
)

// sector is what one sector holds.
type sector [api.Sector]byte

// group is what some home sectors shall hold.
type group map[int]sector

// homes answers which sectors they are, rising.
func (g group) homes() []int {
	return slices.Sorted(maps.Keys(g))
}

// head answers the head of a log that holds this group.
func (g group) head() sector {
	var h sector
	put16(h[countAt:], len(g))
	for k, i := range g.homes() {
		put16(h[homesAt+2*k:], i)
	}
	sum := crc.Sum(h[countAt:])
	for _, i := range g.homes() {
		s := g[i]
		sum = crc.More(sum, s[:])
	}
	put16(h[sumAt:], int(sum&0xffff))
	put16(h[sumAt+2:], int(sum>>16))
	return h
}

func put16(b []byte, n int) {
	b[0], b[1] = byte(n), byte(n>>8)
}

func get16(b []byte) int {
	return int(b[0]) | int(b[1])<<8
}

// isHome tells whether i is a sector of the disk that isn't the log's.
func isHome(d *blockdev.Disk, i int) bool {
	return i >= api.LogSectors && i < d.Len()
}

// read answers a sector that is there.
func read(d *blockdev.Disk, i int) sector {
	var s sector
	b, _ := d.Read(i)
	copy(s[:], b)
	return s
}

// write sets a sector that is there; that the power is off shows in Dead only.
func write(d *blockdev.Disk, i int, s sector) {
	_ = d.Write(i, s[:])
}

// keep puts a group into an empty log. The head comes behind a flush: where it
// lasts, the group behind it does, whatever a sum might overlook.
func keep(d *blockdev.Disk, g group) {
	for k, i := range g.homes() {
		write(d, firstAt+k, g[i])
	}
	d.Flush()
	write(d, headAt, g.head())
	d.Flush()
}

// settle brings a group home and empties the log. The head goes behind a
// flush, and for good: it shall find no other group behind it than its own.
func settle(d *blockdev.Disk, g group) {
	for _, i := range g.homes() {
		write(d, i, g[i])
	}
	d.Flush()
	write(d, headAt, sector{})
	d.Flush()
}

// logged answers the group that the log holds, or none where what stands there
// isn't what keep writes.
func logged(d *blockdev.Disk) group {
	h := read(d, headAt)
	n := get16(h[countAt:])
	if n > api.MaxGroup {
		return nil
	}
	g := group{}
	for k := range n {
		i := get16(h[homesAt+2*k:])
		if !isHome(d, i) {
			return nil
		}
		g[i] = read(d, firstAt+k)
	}
	if h != g.head() {
		return nil
	}
	return g
}
