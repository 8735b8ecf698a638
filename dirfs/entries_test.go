package dirfs_test

import (
	"slices"
	"strings"
	"testing"

	"lychgate/api"
	"lychgate/dirfs"
	"lychgate/inode"
)

// P6.1: an empty file is a directory without entries.
func TestEmpty(t *testing.T) {
	f := inode.New(newRack(0))
	holds(t, f, nil)
	refuses(t, f, finding(t, "a"), api.ErrNotFound)
	refuses(t, f, removing("a"), api.ErrNotFound)
}

// P6.1: entries come one behind the other, and are listed by their names.
func TestAdd(t *testing.T) {
	f, m := inode.New(newRack(9)), model{}
	for _, e := range named("m", "b", "z", "a", "ab", "a.", "a-", "a_", "a0", "0", "-", "_", ".a", "...", "zz", "aa", "y", "b.c") {
		add(t, f, e)
		m = append(m, e)
		holds(t, f, m)
	}
	refuses(t, f, finding(t, "c"), api.ErrNotFound)
	refuses(t, f, finding(t, "aaa"), api.ErrNotFound)
	refuses(t, f, finding(t, "...."), api.ErrNotFound)
}

// P6.1: what rises is the bytes of names, of which a shorter one is ahead.
func TestListOrder(t *testing.T) {
	want := []string{"-", "-a", "...", ".a", "0", "00", "9", "_", "a", "a-", "a.", "a0", "a_", "aa", "ab", "b", "z", strings.Repeat("z", 23), strings.Repeat("z", 24)}
	for shift := range want {
		f := inode.New(newRack(9))
		add(t, f, named(slices.Concat(want[shift:], want[:shift])...)...)
		l, err := dirfs.List(f)
		if err != nil || len(l) != len(want) {
			t.Fatal(l, err)
		}
		for i, e := range l {
			if e.Name != want[i] || e.Node != (i-shift+len(want))%len(want)+1 {
				t.Errorf("entry %d: %v, want %q", i, e, want[i])
			}
		}
	}
}

// P6.1: names of all lengths and letters, and the numbers from 1 to 31.
func TestAddEdges(t *testing.T) {
	for n := 1; n <= 24; n++ {
		f := inode.New(newRack(1))
		e := dirfs.Entry{Name: strings.Repeat("q", n), Node: 31}
		add(t, f, e)
		holds(t, f, model{e})
		refuses(t, f, finding(t, e.Name[1:]+"r"), api.ErrNotFound)
		remove(t, f, e.Name)
		holds(t, f, model{free})
	}
	for _, c := range strings.Replace(letters, ".", "", 1) {
		e := dirfs.Entry{Name: string(c), Node: 1}
		holds(t, model{e}.made(t), model{e})
	}
	f, m := inode.New(newRack(9)), model{}
	for node := 1; node <= 31; node++ {
		e := dirfs.Entry{Name: strings.Repeat("n", 1+node%24) + letters[node:node+1], Node: node}
		if len(e.Name) > 24 {
			e.Name = letters[node : node+1]
		}
		add(t, f, e)
		m = append(m, e)
	}
	holds(t, f, m)
}

// P6.1: several names may have one number.
func TestNumbersMayBeEqual(t *testing.T) {
	f, m := inode.New(newRack(9)), model{{Name: "a", Node: 5}, {Name: "b", Node: 5}, {Name: "c", Node: 5}}
	add(t, f, m...)
	holds(t, f, m)
	remove(t, f, "b")
	m[1] = free
	holds(t, f, m)
}

// wrongNames are some that may not be.
var wrongNames = []string{"", ".", "..", "A", "/", "/a", "a/", "a b", "a\x00", "\x00", "é", "\xff", "`", "{", ":", strings.Repeat("a", 25), strings.Repeat("a", 1<<16)}

// wrongNodes are some numbers that may not be.
var wrongNodes = []int{0, -1, 32, 33, 255, 256, 257, 256 + 31, 1<<32 + 1, -255, -1 << 63, 1<<63 - 1}

// P6.1: names and numbers that may not be; the name counts first.
func TestWrongNamesAndNumbers(t *testing.T) {
	for _, f := range []*inode.File{inode.New(newRack(9)), model(named("a", "b")).made(t), (model{free}).made(t)} {
		for _, name := range wrongNames {
			refuses(t, f, finding(t, name), api.ErrName)
			refuses(t, f, removing(name), api.ErrName)
			refuses(t, f, adding(name, 1), api.ErrName)
			for _, node := range wrongNodes {
				refuses(t, f, adding(name, node), api.ErrName)
			}
		}
		for _, node := range wrongNodes {
			refuses(t, f, adding("c", node), api.ErrRange)
			refuses(t, f, adding("a", node), api.ErrRange)
		}
	}
}

// P6.1: a name that is there can't come once more, with no number.
func TestExists(t *testing.T) {
	m := model(named("a", "b", strings.Repeat("c", 24)))
	for _, gap := range []int{0, 1, 2, 3} {
		with := slices.Insert(slices.Clone(m), gap, free)
		f := with.made(t)
		for _, e := range m {
			for node := 1; node <= 31; node++ {
				refuses(t, f, adding(e.Name, node), api.ErrExists)
			}
		}
		refuses(t, f, finding(t, strings.Repeat("c", 23)), api.ErrNotFound)
		holds(t, f, with)
	}
}

// P6.1: a name goes, and just that one; then it is not there.
func TestRemove(t *testing.T) {
	all := named("e", "b", "d", "a", "c")
	for i := range all {
		f, m := inode.New(newRack(9)), model(slices.Clone(all))
		add(t, f, all...)
		remove(t, f, all[i].Name)
		m[i] = free
		holds(t, f, m)
		refuses(t, f, removing(all[i].Name), api.ErrNotFound)
		refuses(t, f, finding(t, all[i].Name), api.ErrNotFound)
		refuses(t, f, removing("f"), api.ErrNotFound)
		again := dirfs.Entry{Name: all[i].Name, Node: 30}
		add(t, f, again)
		m[i] = again
		holds(t, f, m)
	}
}

// P6.1: slots are never given back, even if all are free.
func TestSlotsStay(t *testing.T) {
	f, m := inode.New(newRack(9)), model(many(40))
	add(t, f, m...)
	for i := range m {
		remove(t, f, m[i].Name)
		m[i] = free
	}
	holds(t, f, m)
	if f.Blocks() != 3 {
		t.Errorf("%d blocks", f.Blocks())
	}
}

// P6.1: a new entry takes the first free slot, else one behind the last.
func TestFirstFreeSlot(t *testing.T) {
	for taken := range 1 << 5 {
		m := model{}
		for i, e := range named("s", "t", "u", "v", "w") {
			if taken>>i&1 == 0 {
				e = free
			}
			m = append(m, e)
		}
		f := m.made(t)
		for _, e := range named("f", "e", "d", "c", "b", "a") {
			add(t, f, e)
			m.add(e)
			holds(t, f, m)
		}
	}
}

// P6.1: slots on both sides of a block's end, taken and free.
func TestBlockEnds(t *testing.T) {
	f, m, l := inode.New(newRack(9)), model{}, many(50)
	for i, e := range l {
		add(t, f, e)
		m = append(m, e)
		if f.Blocks() != 1+i/16 {
			t.Errorf("%d slots on %d blocks", i+1, f.Blocks())
		}
	}
	holds(t, f, m)
	for _, i := range []int{32, 15, 31, 16} {
		remove(t, f, m[i].Name)
		m[i] = free
		holds(t, f, m)
	}
	for _, e := range named("1", "2", "3", "4", "5") {
		add(t, f, e)
		m.add(e)
		holds(t, f, m)
	}
}

// P6.1: without a block left an entry needs a free slot.
func TestFullStore(t *testing.T) {
	none := inode.New(newRack(0))
	refuses(t, none, adding("a", 1), api.ErrFull)
	refuses(t, none, adding("a", 0), api.ErrRange)
	f, m, l := inode.New(newRack(2)), model{}, many(40)
	for _, e := range l[:32] {
		add(t, f, e)
		m = append(m, e)
	}
	refuses(t, f, adding(l[32].Name, 1), api.ErrFull)
	refuses(t, f, adding(l[31].Name, 1), api.ErrExists)
	holds(t, f, m)
	for k, i := range []int{31, 0, 16, 15} {
		remove(t, f, m[i].Name)
		m[i] = l[32+k]
		add(t, f, m[i])
		refuses(t, f, adding(l[36].Name, 1), api.ErrFull)
	}
	holds(t, f, m)
}

// P6.1: a directory as long as a file may be.
func TestFullFile(t *testing.T) {
	m := model(many(3200))
	f := m.made(t)
	holds(t, f, m)
	refuses(t, f, adding("new", 1), api.ErrBig)
	refuses(t, f, adding(m[3199].Name, 1), api.ErrExists)
	for _, i := range []int{3199, 1600, 0} {
		remove(t, f, m[i].Name)
		m[i] = dirfs.Entry{Name: "new." + letters[i%26:i%26+1], Node: 9}
		add(t, f, m[i])
		refuses(t, f, adding("new", 1), api.ErrBig)
	}
	if l, err := dirfs.List(f); err != nil || !slices.Equal(l, m.list()) {
		t.Error("List of a full directory")
	}
}

// P6.1: a directory whose file was loaded is the same.
func TestLoaded(t *testing.T) {
	r := newRack(9)
	f, m := inode.New(r), model(many(20))
	add(t, f, m...)
	g, err := inode.Load(r, f.Bytes())
	if err != nil {
		t.Fatal(err)
	}
	holds(t, g, m)
	remove(t, g, m[3].Name)
	m[3] = free
	holds(t, g, m)
}

// P0.3: who writes into an answer changes nothing else.
func TestListIsNewMemory(t *testing.T) {
	f, m := inode.New(newRack(9)), model(named("b", "a", "c"))
	add(t, f, m...)
	remove(t, f, "a")
	m[1] = free
	was, _ := dirfs.List(f)
	l, _ := dirfs.List(f)
	for i := range l[:cap(l)] {
		l[:cap(l)][i] = dirfs.Entry{Name: "x", Node: 99}
	}
	if !slices.Equal(was, m.list()) {
		t.Errorf("%v", was)
	}
	holds(t, f, m)
}

// P0.5: directories are apart, on one store too.
func TestTwoDirectories(t *testing.T) {
	r := newRack(9)
	f, g := inode.New(r), inode.New(r)
	m, n := model(many(20)), model(named("a", "b"))
	for i, e := range m {
		add(t, f, e)
		if i < len(n) {
			add(t, g, n[i])
		}
	}
	remove(t, g, "b")
	n[1] = free
	holds(t, f, m)
	holds(t, g, n)
}
