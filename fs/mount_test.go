package fs_test

import (
	"errors"
	"fmt"
	"testing"

	"lychgate/api"
	"lychgate/blockdev"
	"lychgate/fs"
)

// noFS checks that there is no file system on a disk.
func noFS(t *testing.T, what string, d *blockdev.Disk, want error) {
	t.Helper()
	if f, err := fs.Mount(d); !errors.Is(err, want) || f != nil {
		t.Errorf("%s: mounted %v, %v, want %v", what, f != nil, err, want)
	}
}

// dead makes a disk without power.
func dead(sectors int) *blockdev.Disk {
	d := blockdev.New(sectors)
	d.Limit(0)
	return d
}

// P7.1: disks that are too small, none, or dead.
func TestSmall(t *testing.T) {
	small := []*blockdev.Disk{nil, {}, blockdev.New(0), blockdev.New(4097), dead(1), dead(127), dead(128), dead(4096)}
	for _, n := range []int{1, 47, 48, 53, 54, 55, 126, 127} {
		small = append(small, blockdev.New(n))
	}
	for k, d := range small {
		if err := fs.Mkfs(d); !errors.Is(err, api.ErrSmall) {
			t.Errorf("disk %d of %d sectors: %v", k, d.Len(), err)
		}
		noFS(t, fmt.Sprint("disk ", k), d, api.ErrSmall)
	}
	d, _ := made(t, 128)
	d.Limit(0)
	if err := fs.Mkfs(d); !errors.Is(err, api.ErrSmall) {
		t.Errorf("a dead disk: %v", err)
	}
	noFS(t, "a dead disk", d, api.ErrSmall)
	mounted(t, d.Crash(nil))
}

// P7.1: an empty file system has n - 54 blocks and 30 nodes free, and works.
func TestMkfs(t *testing.T) {
	for _, n := range []int{128, 129, 135, 200, 559, 560, 561, 1000, 4095, 4096} {
		d := blockdev.New(n)
		if err := fs.Mkfs(d); err != nil {
			t.Fatal(err)
		}
		// It lasts, whatever a crash picks.
		for _, e := range []*blockdev.Disk{d.Crash(nil), d} {
			f := mounted(t, e)
			plays(t, f,
				expect{free(), fmt.Sprint(n-54, " 30")},
				expect{list("/"), "[]"},
				expect{size(0), "out of range"},
				expect{mkdir("/d"), "OK"},
				expect{list("/"), "[{d 2}]"},
			)
		}
	}
}

// P7.1: Mkfs on a disk that holds something, of a file system or not.
func TestMkfsAgain(t *testing.T) {
	d, f := made(t, 128)
	empty := dump(f)
	well(t, f, mkdir("/d"), create("/x"))
	opened(t, f, "/x")
	well(t, f, write(0, 0, filled(1, 4096)), syncing())
	for range 2 {
		if err := fs.Mkfs(d); err != nil {
			t.Fatal(err)
		}
		if is := dump(mounted(t, d.Crash(nil))); is != empty {
			t.Errorf("%s isn't %s", is, empty)
		}
	}
	for _, c := range []byte{1, 128, 255} {
		d := litter(t, 140, c)
		if err := fs.Mkfs(d); err != nil {
			t.Fatal(err)
		}
		f := mounted(t, d.Crash(nil))
		well(t, f, create("/x"))
		plays(t, f, expect{open("/x"), "0"}, expect{truncate(0, 1000), "OK"}, expect{read(0, 0, 2), "[0 0]"}, expect{write(0, 20, []byte("a")), "OK"}, expect{read(0, 19, 3), "[0 97 0]"})
	}
}

// litter makes a disk that is full of a byte.
func litter(t *testing.T, sectors int, c byte) *blockdev.Disk {
	t.Helper()
	d := blockdev.New(sectors)
	b := make([]byte, api.Sector)
	for i := range b {
		b[i] = c
	}
	for i := range sectors {
		if err := d.Write(i, b); err != nil {
			t.Fatal(err)
		}
	}
	return d
}

// P7.1: disks on which there is no file system.
func TestMountNothing(t *testing.T) {
	noFS(t, "zeros", blockdev.New(128), api.ErrBroken)
	noFS(t, "zeros", blockdev.New(4096), api.ErrBroken)
	for c := range 256 {
		noFS(t, fmt.Sprint("all ", c), litter(t, 128, byte(c)), api.ErrBroken)
	}
}

// P7.1: a Mkfs that the power cuts off says so, and leaves what was there ahead
// or an empty file system.
func TestMkfsDies(t *testing.T) {
	_, f := made(t, 128)
	empty := dump(f)
	full, f := made(t, 128)
	well(t, f, create("/x"), mkdir("/d"), create("/d/f"), syncing())
	old := dump(f)
	for _, c := range []struct {
		d   *blockdev.Disk
		was string
	}{{blockdev.New(128), "none"}, {full, old}} {
		for cut := 0; ; cut++ {
			d := c.d.Crash(nil)
			d.Limit(cut)
			err := fs.Mkfs(d)
			crashes(d, func(e *blockdev.Disk) {
				is := "none"
				if f, err := fs.Mount(e); err == nil {
					is = dump(f)
				} else if !errors.Is(err, api.ErrBroken) {
					t.Errorf("cut %d: %v", cut, err)
				}
				if is != empty && (is != c.was || err == nil) {
					t.Errorf("cut %d: %s", cut, is)
				}
			})
			if !d.Dead() {
				if err != nil {
					t.Errorf("cut %d: %v", cut, err)
				}
				break
			}
			if !errors.Is(err, api.ErrSmall) {
				t.Errorf("cut %d: %v", cut, err)
			}
		}
	}
}

// P7.3: what was not synced isn't there for another Mount; what was is.
func TestMountAgain(t *testing.T) {
	d, f := made(t, 128)
	well(t, f, mkdir("/d"), syncing(), create("/x"))
	plays(t, mounted(t, d), expect{list("/"), "[{d 2}]"})
	well(t, f, syncing())
	plays(t, mounted(t, d), expect{list("/"), "[{d 2} {x 3}]"})
}
