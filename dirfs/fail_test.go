package dirfs_test

import (
	"testing"

	"lychgate/api"
	"lychgate/inode"
)

// P6.1: errors of the file come out, at each call of its store, and the
// directory is as it was.
func TestStoreFails(t *testing.T) {
	m := model(many(15))
	m[4] = free
	full := model(many(16))
	for _, c := range []struct {
		call
		m       model
		atLeast int // calls of the store
	}{
		{finding(t, m[7].Name), m, 1},
		{finding(t, "new"), m, 1},
		{listing(t), m, 1},
		{removing(m[7].Name), m, 2},
		{removing("new"), m, 1},
		{adding("new", 1), m, 2},
		{adding(m[7].Name, 1), m, 1},
		{adding("new", 1), full, 3},
	} {
		turn := 1
		for ; ; turn++ {
			r := newRack(9)
			f := inode.New(r)
			fill(t, f, c.m.laid(t))
			was, blocks := f.Bytes(), len(r.held)
			r.turn = turn
			err := c.do(f)
			done := r.turn > 0
			r.turn = 0
			if done {
				break
			}
			again := call{c.what, func(*inode.File) error { return err }}
			refuses(t, f, again, errDown)
			holds(t, f, c.m)
			if string(f.Bytes()) != string(was) || len(r.held) != blocks {
				t.Errorf("%s: call %d failed, and the file is another", c.what, turn)
			}
		}
		if turn <= c.atLeast {
			t.Errorf("%s: %d calls of the store failed", c.what, turn-1)
		}
	}
}

// tells checks the errors of calls that come to the file, when it has only
// this one to tell, and of those that know theirs without a look at it.
func tells(t *testing.T, f *inode.File, ahead func(), want error) {
	t.Helper()
	for _, c := range []struct {
		call
		want error
	}{
		{finding(t, "a"), want},
		{removing("a"), want},
		{adding("a", 1), want},
		{listing(t), want},
		{finding(t, "A"), api.ErrName},
		{removing("A"), api.ErrName},
		{adding("A", 0), api.ErrName},
		{adding("a", 0), api.ErrRange},
	} {
		ahead()
		if err := c.do(f); err != c.want {
			t.Errorf("%s: %v, want %v", c.what, err, c.want)
		}
	}
}

// P6.1: what is seen without the store counts ahead of its errors.
func TestStoreFailsBehind(t *testing.T) {
	r := newRack(9)
	f := inode.New(r)
	fill(t, f, append(model(named("a")).laid(t), 0))
	tells(t, f, func() { r.turn = 1 }, api.ErrBroken)
}

// P0.1, P0.2: no file, and one without a store, is no directory.
func TestNoFile(t *testing.T) {
	for _, f := range []*inode.File{nil, {}, inode.New(nil)} {
		tells(t, f, func() {}, api.ErrRange)
	}
}
