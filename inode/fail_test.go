package inode_test

import (
	"bytes"
	"errors"
	"maps"
	"math"
	"strconv"
	"testing"

	"lychgate/api"
	"lychgate/inode"
)

// deed is something that a file is told while its store may fail. All parts
// ahead of that of from stay as they are, whatever the store does.
type deed struct {
	name string
	from int
	do   func(f *inode.File) error
	sure func(m *model)
}

func writing(at, n int) deed {
	b := text(n, at+1)
	return deed{
		name: "Write(" + strconv.Itoa(at) + ", " + strconv.Itoa(n) + " bytes)",
		from: at,
		do:   func(f *inode.File) error { return f.Write(at, b) },
		sure: func(m *model) { m.write(at, b) },
	}
}

func cutting(n int) deed {
	return deed{
		name: "Truncate(" + strconv.Itoa(n) + ")",
		from: n,
		do:   func(f *inode.File) error { return f.Truncate(n) },
		sure: func(m *model) { m.truncate(n) },
	}
}

// deeds are done to the file of sample.
var deeds = []deed{
	writing(10, 5), writing(0, 512), writing(500, 6000), writing(2*512, 512), writing(3*512+9, 3000), writing(10*512, 1),
	writing(11*512, 700), writing(134*512, 2000), writing(137*512, 512), writing(136*512-1, 2), writing(139*512, 512),
	writing(199*512, 512), writing(0, most),
	cutting(190 * 512), cutting(190*512 + 100), cutting(139*512 + 1), cutting(138 * 512), cutting(136*512 + 5), cutting(136 * 512),
	cutting(10*512 + 3), cutting(9 * 512), cutting(8 * 512), cutting(7*512 + 400), cutting(1), cutting(0),
}

var kinds = []string{"", "Get", "Put", "Take", "Free"}

// snapshot tells all that a store holds.
func snapshot(s *shelf) map[int]string {
	held := map[int]string{}
	for n, b := range s.held {
		held[n] = string(b)
	}
	return held
}

// TestFailOnce lets each call that a deed makes fail, and no other.
func TestFailOnce(t *testing.T) {
	for _, d := range deeds {
		for _, only := range kinds {
			for n := 1; failsOnce(t, d, only, n, n%2 == 0); n++ {
				if t.Failed() {
					t.Fatalf("%s, %q call %d failing", d.name, only, n)
				}
			}
		}
	}
}

// failsOnce tells whether there was an n-th call that could fail.
func failsOnce(t *testing.T, d deed, only string, n int, panics bool) bool {
	s := newShelf(t, 300)
	s.panics = panics
	f, m := sample(t, s)
	was, held := f.Bytes(), snapshot(s)
	s.fail(n, false, only)
	err := d.do(f)
	s.heal()
	if s.broke == "" {
		if err != nil {
			t.Errorf("%v", err)
		}
		d.sure(m)
		holds(t, s, f, m)
		return false
	}
	tells(t, err, panics)
	holds(t, s, f, m)
	// Where a block was freed already, it may be back under another number.
	if exact := s.broke != "Free" || only == "Free" && n == 1; exact && (!bytes.Equal(f.Bytes(), was) || !maps.Equal(snapshot(s), held)) {
		t.Errorf("not as it was")
	}
	if err := d.do(f); err != nil {
		t.Errorf("again: %v", err)
	}
	d.sure(m)
	holds(t, s, f, m)
	return true
}

// tells checks an error of the store: its own one is wrapped.
func tells(t *testing.T, err error, panics bool) {
	t.Helper()
	want := errBoom
	if panics {
		want = api.ErrBroken
	}
	if !errors.Is(err, want) || err == want || err.Error() == "" {
		t.Errorf("the store's error: %v", err)
	}
}

// TestFailForGood lets each call fail and all behind it. Then what the store
// did can't be taken back, but the file is no other for that.
func TestFailForGood(t *testing.T) {
	for _, d := range deeds {
		for _, only := range kinds {
			for n := 1; failsForGood(t, d, only, n, n%2 == 0); n++ {
				if t.Failed() {
					t.Fatalf("%s, %q calls from %d on failing", d.name, only, n)
				}
			}
		}
	}
}

func failsForGood(t *testing.T, d deed, only string, n int, panics bool) bool {
	s := newShelf(t, 300)
	s.panics = panics
	f, m := sample(t, s)
	was := f.Bytes()
	s.fail(n, true, only)
	err := d.do(f)
	s.heal()
	if s.broke == "" {
		return false
	}
	tells(t, err, panics)
	if f.Size() != len(m.b) || s.broke != "Free" && (f.Blocks() != m.blocks() || !bytes.Equal(f.Bytes(), was)) {
		t.Errorf("Size %d, Blocks %d", f.Size(), f.Blocks())
	}
	if len(s.held) < f.Blocks() {
		t.Errorf("%d blocks are taken of %d", len(s.held), f.Blocks())
	}
	if b := read(t, f, 0, math.MaxInt); len(b) != len(m.b) || !bytes.Equal(b[:min(d.from/512*512, len(b))], m.b[:min(d.from/512*512, len(b))]) {
		t.Error("other bytes than were written")
	}
	s.watch()
	return true
}

// TestFreeFailsLate lets a Free fail when others have been made, on a store
// that gives out numbers that the file never had.
func TestFreeFailsLate(t *testing.T) {
	for n := 1; ; n++ {
		s := newShelf(t, 300)
		s.next = ascending()
		f, m := sample(t, s)
		s.fail(n, false, "Free")
		err := f.Truncate(100)
		s.heal()
		if s.broke == "" {
			if n != m.blocks() {
				t.Errorf("%d calls of Free", n-1)
			}
			return
		}
		tells(t, err, false)
		holds(t, s, f, m)
		truncate(t, f, 0)
		if len(s.held) > 0 {
			t.Errorf("%d blocks are left", len(s.held))
		}
	}
}

// TestFreedBlocksAreGone is the same on a store that gives out only some again:
// parts that lost their block are holes, and all others are as they were.
func TestFreedBlocksAreGone(t *testing.T) {
	for n := 2; ; n++ {
		for again := range n - 1 {
			s := newShelf(t, 300)
			f, m := sample(t, s)
			all := m.blocks()
			s.room = all - (n - 1) + again
			s.fail(n, false, "Free")
			err := f.Truncate(0)
			s.heal()
			if s.broke == "" {
				return
			}
			tells(t, err, false)
			if f.Size() != len(m.b) || f.Blocks() != len(s.held) || f.Blocks() != s.room {
				t.Errorf("Free %d, %d again: Size %d, Blocks %d, %d taken", n, again, f.Size(), f.Blocks(), len(s.held))
			}
			g := load(t, s, f.Bytes())
			b := read(t, g, 0, most)
			if !bytes.Equal(b, read(t, f, 0, most)) || g.Blocks() != f.Blocks() {
				t.Errorf("Free %d, %d again: a loaded file is another", n, again)
			}
			for at := 0; at < len(b); at += 512 {
				part, was := b[at:min(at+512, len(b))], m.b[at:min(at+512, len(b))]
				if !bytes.Equal(part, was) && !bytes.Equal(part, make([]byte, len(part))) {
					t.Errorf("Free %d, %d again: other bytes at %d", n, again, at)
				}
			}
			truncate(t, f, 0)
			if len(s.held) > 0 {
				t.Errorf("Free %d, %d again: %d blocks are left", n, again, len(s.held))
			}
		}
	}
}

func TestNoBlockLeft(t *testing.T) {
	for _, d := range deeds {
		for more := 0; ; more++ {
			s := newShelf(t, 300)
			f, m := sample(t, s)
			was, held := f.Bytes(), snapshot(s)
			s.room = m.blocks() + more
			err := d.do(f)
			if err == nil {
				d.sure(m)
				if now := m.blocks(); more > 0 && now != s.room {
					t.Errorf("%s: %d more blocks, of %d that were left", d.name, now-len(held), more)
				}
				holds(t, s, f, m)
				break
			}
			if !errors.Is(err, api.ErrFull) || !bytes.Equal(f.Bytes(), was) || !maps.Equal(snapshot(s), held) {
				t.Errorf("%s, %d blocks left: %v", d.name, more, err)
			}
			holds(t, s, f, m)
		}
	}
	s := newShelf(t, 0)
	f := inode.New(s)
	truncate(t, f, most)
	if err := f.Write(7, []byte{1}); !errors.Is(err, api.ErrFull) {
		t.Errorf("Write without a block: %v", err)
	}
	holds(t, s, f, &model{b: make([]byte, most)})
}

func TestReadAndLoadFail(t *testing.T) {
	s := newShelf(t, 300)
	f, m := sample(t, s)
	for _, panics := range []bool{false, true} {
		s.panics = panics
		for n := 1; ; n++ {
			s.fail(n, false, "")
			b, err := f.Read(0, most)
			s.heal()
			if s.broke == "" {
				break
			}
			tells(t, err, panics)
			if len(b) > 0 {
				t.Errorf("%d bytes beside an error", len(b))
			}
		}
		for n := 1; n < 4; n++ {
			s.fail(n, false, "")
			g, err := inode.Load(s, f.Bytes())
			s.heal()
			tells(t, err, panics)
			if g != nil {
				t.Error("a file beside an error")
			}
		}
		holds(t, s, f, m)
	}
}

// odd is a store that answers something else than it should.
type odd struct {
	*shelf
	get  func(n int) ([]byte, error)
	take func() (int, error)
	free []int
}

func (o *odd) Get(n int) ([]byte, error) {
	if o.get == nil {
		return o.shelf.Get(n)
	}
	return o.get(n)
}

func (o *odd) Take() (int, error) {
	if o.take == nil {
		return o.shelf.Take()
	}
	return o.take()
}

func (o *odd) Free(n int) error {
	o.free = append(o.free, n)
	if o.take == nil {
		return o.shelf.Free(n)
	}
	return nil
}

func TestGetOfAnotherLength(t *testing.T) {
	o := &odd{shelf: newShelf(t, 300)}
	f, m := inode.New(o), &model{}
	write(t, f, 0, text(6000, 0))
	m.write(0, text(6000, 0))
	for _, n := range []int{0, 1, 511, 513, 1024} {
		o.get = func(int) ([]byte, error) { return make([]byte, n), nil }
		b, err := f.Read(0, 10)
		if _, err := inode.Load(o, f.Bytes()); !errors.Is(err, api.ErrBroken) {
			t.Errorf("Load with a Get of %d bytes: %v", n, err)
		}
		if len(b) > 0 || !errors.Is(err, api.ErrBroken) || !errors.Is(f.Write(0, []byte{1}), api.ErrBroken) || !errors.Is(f.Truncate(1), api.ErrBroken) {
			t.Errorf("a Get of %d bytes: Read %v, %v", n, b, err)
		}
		o.get = nil
		holds(t, o.shelf, f, m)
	}
}

func TestTakeOfNoBlock(t *testing.T) {
	o := &odd{shelf: newShelf(t, 300)}
	f, m := inode.New(o), &model{}
	write(t, f, 0, text(600, 0))
	m.write(0, text(600, 0))
	for _, n := range []int{math.MinInt, -1 << 32, -1<<32 + 50, -1, 0, 1, 2} {
		o.take = func() (int, error) { return n, nil }
		if err := f.Write(1024, []byte{1}); !errors.Is(err, api.ErrBroken) || len(o.free) > 0 {
			t.Errorf("a Take of %d: %v, Free of %v", n, err, o.free)
		}
		o.take = nil
		holds(t, o.shelf, f, m)
	}
	for _, n := range []int{1 << 32, 1<<32 + 50, math.MaxInt} {
		o.take, o.free = func() (int, error) { return n, nil }, nil
		if err := f.Write(1024, []byte{1}); !errors.Is(err, api.ErrBroken) || len(o.free) != 1 || o.free[0] != n {
			t.Errorf("a Take of %d: %v, Free of %v", n, err, o.free)
		}
		o.take = nil
		holds(t, o.shelf, f, m)
	}
}

// TestTypedNil: a store that is a nil of its own kind isn't nil for New.
func TestTypedNil(t *testing.T) {
	f := inode.New((*odd)(nil))
	if err := f.Write(0, []byte{1}); !errors.Is(err, api.ErrBroken) {
		t.Errorf("Write: %v", err)
	}
	if f.Size() != 0 || f.Blocks() != 0 || len(read(t, f, 0, 1)) != 0 {
		t.Errorf("Size %d, Blocks %d", f.Size(), f.Blocks())
	}
}
