package inode

import (
	"slices"

	"lychgate/api"
)

const (
	most   = api.MaxBlocks * api.Sector // bytes of a file
	names  = api.Sector / 4             // numbers that a block holds
	groups = (api.MaxBlocks - api.Direct + names - 1) / names
)

// Where the numbers of a file's blocks stand in a table: first those of its
// parts, then those of the indirect blocks (the first of which the file itself
// names, the others the double indirect one), then that of the double indirect
// one. So what names a block always stands behind it.
const (
	indexAt  = api.MaxBlocks
	doubleAt = indexAt + groups
	slots    = doubleAt + 1
)

// table tells the numbers of a file's blocks, 0 where there is none.
type table [slots]uint32

// named tells which slots the indirect block at slot k names.
func named(k int) (from, to int) {
	if k == doubleAt {
		return indexAt + 1, doubleAt
	}
	from = api.Direct + (k-indexAt)*names
	return from, min(from+names, api.MaxBlocks)
}

// first answers the first part for which a file has a block at slot k.
func first(k int) int {
	if k < indexAt {
		return k
	}
	from, _ := named(k)
	return first(from)
}

// parts tells how many parts n bytes have.
func parts(n int) int {
	return (n + api.Sector - 1) / api.Sector
}

// used tells whether the indirect block at slot k has any to name.
func (t *table) used(k int) bool {
	from, to := named(k)
	return slices.ContainsFunc(t[from:to], func(n uint32) bool { return n != 0 })
}

// needs tells whether there has to be a block at slot k for a file that has
// the parts from from on, ahead of to.
func (t *table) needs(k, from, to int) bool {
	if k < indexAt {
		return from <= k && k < to
	}
	return t.used(k)
}

// page answers what the indirect block at slot k holds.
func (t *table) page(k int) block {
	var b block
	from, to := named(k)
	for i, n := range t[from:to] {
		put32(b[4*i:], n)
	}
	return b
}

// learn takes the numbers that the indirect block at slot k holds; false: no
// such block holds that.
func (t *table) learn(k int, b block) bool {
	from, to := named(k)
	for i := range to - from {
		t[from+i] = get32(b[4*i:])
	}
	return t.page(k) == b
}

// may tells whether a file of so many bytes can have these blocks.
func (t table) may(size int) bool {
	if size > most {
		return false
	}
	for k, n := range t {
		if n != 0 && first(k) >= parts(size) {
			return false
		}
	}
	slices.Sort(t[:])
	for k := 1; k < slots; k++ {
		if t[k] != 0 && t[k] == t[k-1] {
			return false
		}
	}
	return true
}

// cut answers the table of a file of which n bytes are left.
func (t table) cut(n int) table {
	clear(t[parts(n):indexAt])
	for k := indexAt; k < slots; k++ {
		if !t.used(k) {
			t[k] = 0
		}
	}
	return t
}

func put32(b []byte, n uint32) {
	b[0], b[1], b[2], b[3] = byte(n), byte(n>>8), byte(n>>16), byte(n>>24)
}

func get32(b []byte) uint32 {
	return uint32(b[0]) | uint32(b[1])<<8 | uint32(b[2])<<16 | uint32(b[3])<<24
}
