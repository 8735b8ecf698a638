package wal

import (
	"bytes"
	"slices"
	"testing"

	"lychgate/api"
	"lychgate/blockdev"
	"lychgate/crc"
)

func all(c byte) sector {
	return sector(bytes.Repeat([]byte{c}, api.Sector))
}

// crafted makes a disk in whose log just this stands.
func crafted(sectors int, head sector, behind ...sector) *blockdev.Disk {
	d := blockdev.New(sectors)
	write(d, headAt, head)
	for k, s := range behind {
		write(d, firstAt+k, s)
	}
	d.Flush()
	return d
}

// signed gives a head the sum that fits it and the sectors behind it.
func signed(head sector, behind ...sector) sector {
	sum := crc.Sum(head[countAt:])
	for _, s := range behind {
		sum = crc.More(sum, s[:])
	}
	put16(head[sumAt:], int(sum&0xffff))
	put16(head[sumAt+2:], int(sum>>16))
	return head
}

// headOf makes a head for n sectors with these homes, whatever they may be.
func headOf(n int, homes ...int) sector {
	var h sector
	put16(h[countAt:], n)
	for k, i := range homes {
		put16(h[homesAt+2*k:], i)
	}
	return h
}

// plain checks that Open takes nothing home from such a log and empties it.
func plain(t *testing.T, what string, d *blockdev.Disk) {
	t.Helper()
	if _, err := Open(d); err != nil {
		t.Fatalf("%s: %v", what, err)
	}
	for i := api.LogSectors; i < d.Len(); i++ {
		if read(d, i) != (sector{}) {
			t.Errorf("%s: sector %d was changed", what, i)
		}
	}
	if e := d.Crash(nil); read(e, headAt) != (sector{}) {
		t.Errorf("%s: the head stays", what)
	}
}

func TestCraftedLogs(t *testing.T) {
	two := []sector{all(1), all(2)}
	many := slices.Repeat([]sector{all(3)}, 47)
	places := make([]int, 47)
	for k := range places {
		places[k] = 60 + k
	}
	good := signed(headOf(2, 50, 127), two...)
	for _, n := range []int{128, 4096} {
		d := crafted(n, good, two...)
		if _, err := Open(d); err != nil || read(d, 50) != all(1) || read(d, 127) != all(2) {
			t.Errorf("a group of two isn't taken home, error %v", err)
		}
		plain(t, "a log that was emptied", crafted(n, read(d, headAt), two...))
		plain(t, "no sum", crafted(n, headOf(2, 50, 127), two...))
		plain(t, "other sectors", crafted(n, good, all(1), all(3)))
		plain(t, "sectors turned round", crafted(n, good, all(2), all(1)))
		plain(t, "no sectors", crafted(n, signed(headOf(0)), two...))
		plain(t, "fewer sectors", crafted(n, signed(headOf(1, 50, 127), two...), two...))
		plain(t, "more homes", crafted(n, signed(headOf(1, 50, 127), two[0]), two...))
		plain(t, "falling homes", crafted(n, signed(headOf(2, 127, 50), two...), two...))
		plain(t, "a home twice", crafted(n, signed(headOf(2, 50, 50), two...), two...))
		plain(t, "a home in the log", crafted(n, signed(headOf(2, 47, 50), two...), two...))
		plain(t, "the head for a home", crafted(n, signed(headOf(2, 0, 50), two...), two...))
		plain(t, "a home behind the end", crafted(n, signed(headOf(2, 50, n), two...), two...))
		plain(t, "the last number for a home", crafted(n, signed(headOf(2, 50, 65535), two...), two...))
		plain(t, "41 sectors", crafted(n, signed(headOf(41, places[:41]...), many[:41]...), many...))
		plain(t, "47 sectors", crafted(n, signed(headOf(47, places...), many...), many...))
		plain(t, "65,535 sectors", crafted(n, signed(headOf(65535, places...), many...), many...))
		tail := headOf(2, 50, 127)
		tail[511] = 1
		plain(t, "something behind the homes", crafted(n, signed(tail, two...), two...))
	}
}
