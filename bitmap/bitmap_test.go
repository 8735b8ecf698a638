package bitmap_test

import (
	"bytes"
	"errors"
	"math"
	"slices"
	"testing"

	"lychgate/api"
	"lychgate/bitmap"
)

// sizes are lengths at and beside the ends of bytes, and the least and most.
var sizes = []int{0, 1, 2, 6, 7, 8, 9, 15, 16, 17, 63, 64, 65, 100, 4087, 4088, 4089, 4095, 4096}

// none are lengths that no map may have.
var none = []int{math.MinInt, math.MinInt + 1, -4096, -8, -7, -1, 4097, 4103, 4104, 1 << 32, math.MaxInt - 7, math.MaxInt}

func fresh(t *testing.T, n int) *bitmap.Map {
	t.Helper()
	m := bitmap.New(n)
	if m == nil {
		t.Fatalf("New(%d) is nil", n)
	}
	return m
}

// with makes a map of n in which just these are taken.
func with(t *testing.T, n int, taken ...int) *bitmap.Map {
	t.Helper()
	m := fresh(t, n)
	for _, i := range taken {
		if err := m.Set(i); err != nil {
			t.Fatalf("Set(%d) of %d: %v", i, n, err)
		}
	}
	return m
}

func load(t *testing.T, n int, b []byte) *bitmap.Map {
	t.Helper()
	m, err := bitmap.Load(n, b)
	if err != nil || m == nil {
		t.Fatalf("Load(%d, %v): %v, error %v", n, b, m, err)
	}
	return m
}

// full makes a map of n that are all taken.
func full(t *testing.T, n int) *bitmap.Map {
	t.Helper()
	return load(t, n, packed(slices.Repeat([]bool{true}, n)))
}

// packed lays bools into bytes, as the chapter says.
func packed(taken []bool) []byte {
	b := make([]byte, (len(taken)+7)/8)
	for i, is := range taken {
		if is {
			b[i/8] |= 1 << (i % 8)
		}
	}
	return b
}

// shows checks all that a map tells.
func shows(t *testing.T, m *bitmap.Map, want []bool) {
	t.Helper()
	left := 0
	for i, is := range want {
		if m.Has(i) != is {
			t.Errorf("of %d: Has(%d) is %v", len(want), i, !is)
		}
		if !is {
			left++
		}
	}
	for _, i := range outside(len(want)) {
		if m.Has(i) {
			t.Errorf("of %d: Has(%d)", len(want), i)
		}
	}
	if m.Left() != left {
		t.Errorf("of %d: Left is %d, want %d", len(want), m.Left(), left)
	}
	if b := m.Bytes(); !bytes.Equal(b, packed(want)) {
		t.Errorf("of %d: Bytes are %v, want %v", len(want), b, packed(want))
	}
}

// holds checks that just these of n are taken.
func holds(t *testing.T, m *bitmap.Map, n int, taken ...int) {
	t.Helper()
	want := make([]bool, n)
	for _, i := range taken {
		want[i] = true
	}
	shows(t, m, want)
}

// outside are numbers that a map of n doesn't have.
func outside(n int) []int {
	return []int{math.MinInt, -4096, -8, -1, n, n + 1, n + 7, n + 8, 4096, 4097, 1 << 32, math.MaxInt}
}

func takes(t *testing.T, m *bitmap.Map, want int) {
	t.Helper()
	if i, err := m.Take(); i != want || err != nil {
		t.Fatalf("Take: %d, error %v, want %d", i, err, want)
	}
}

func isFull(t *testing.T, m *bitmap.Map) {
	t.Helper()
	if i, err := m.Take(); i != -1 || !errors.Is(err, api.ErrFull) {
		t.Errorf("Take of a full map: %d, %v", i, err)
	}
}

func TestNew(t *testing.T) {
	for _, n := range none {
		if bitmap.New(n) != nil {
			t.Errorf("New(%d) is not nil", n)
		}
	}
	for _, n := range sizes {
		holds(t, fresh(t, n), n)
	}
}

func TestTakeRises(t *testing.T) {
	for _, n := range sizes {
		m := fresh(t, n)
		for i := range n {
			takes(t, m, i)
			if !m.Has(i) || m.Has(i+1) || m.Left() != n-i-1 {
				t.Fatalf("of %d, behind Take of %d: Has %v, next %v, Left %d", n, i, m.Has(i), m.Has(i+1), m.Left())
			}
		}
		for range 2 {
			isFull(t, m)
			shows(t, m, slices.Repeat([]bool{true}, n))
		}
	}
}

func TestTakeIsTheLeast(t *testing.T) {
	m := with(t, 20, 0, 1, 3, 8, 19)
	for _, i := range []int{2, 4, 5, 6, 7, 9} {
		takes(t, m, i)
	}
	holds(t, m, 20, 0, 1, 2, 3, 4, 5, 6, 7, 8, 9, 19)
	for _, i := range []int{9, 3, 8} {
		if err := m.Free(i); err != nil {
			t.Fatalf("Free(%d): %v", i, err)
		}
	}
	for _, i := range []int{3, 8, 9, 10} {
		takes(t, m, i)
	}
}

// TestTakeOfOneHole lets each number of a full map be the only free one.
func TestTakeOfOneHole(t *testing.T) {
	for _, n := range sizes {
		m := full(t, n)
		for i := range n {
			if err := m.Free(i); err != nil || m.Left() != 1 {
				t.Fatalf("of %d: Free(%d): %v, Left %d", n, i, err, m.Left())
			}
			takes(t, m, i)
			isFull(t, m)
		}
		shows(t, m, slices.Repeat([]bool{true}, n))
	}
}

func TestSet(t *testing.T) {
	for _, n := range sizes {
		m := fresh(t, n)
		for i := n - 1; i >= 0; i-- {
			if err := m.Set(i); err != nil || !m.Has(i) || m.Left() != i {
				t.Fatalf("of %d: Set(%d): %v, Has %v, Left %d", n, i, err, m.Has(i), m.Left())
			}
			if err := m.Set(i); !errors.Is(err, api.ErrBroken) {
				t.Fatalf("of %d: second Set(%d): %v", n, i, err)
			}
		}
		shows(t, m, slices.Repeat([]bool{true}, n))
		isFull(t, m)
	}
}

func TestFree(t *testing.T) {
	for _, n := range sizes {
		m := full(t, n)
		for i := range n {
			if err := m.Free(i); err != nil || m.Has(i) || m.Left() != i+1 {
				t.Fatalf("of %d: Free(%d): %v, Has %v, Left %d", n, i, err, m.Has(i), m.Left())
			}
			if err := m.Free(i); !errors.Is(err, api.ErrBroken) {
				t.Fatalf("of %d: second Free(%d): %v", n, i, err)
			}
		}
		holds(t, m, n)
	}
}

// TestOneOfMany looks at all others, too.
func TestOneOfMany(t *testing.T) {
	for _, n := range []int{1, 7, 8, 9, 17, 64} {
		for i := range n {
			m := with(t, n, i)
			holds(t, m, n, i)
			if m.Free(i) != nil {
				t.Errorf("of %d: Free(%d) is refused", n, i)
			}
			holds(t, m, n)
			want := slices.Repeat([]bool{true}, n)
			m = full(t, n)
			if m.Free(i) != nil {
				t.Errorf("of %d: Free(%d) is refused", n, i)
			}
			want[i] = false
			shows(t, m, want)
		}
	}
}

func TestOutside(t *testing.T) {
	for _, n := range sizes {
		empty, all := fresh(t, n), full(t, n)
		for _, m := range []*bitmap.Map{empty, all} {
			for _, i := range outside(n) {
				if i >= 0 && i < n {
					continue
				}
				if err := m.Set(i); !errors.Is(err, api.ErrRange) {
					t.Errorf("of %d: Set(%d): %v", n, i, err)
				}
				if err := m.Free(i); !errors.Is(err, api.ErrRange) {
					t.Errorf("of %d: Free(%d): %v", n, i, err)
				}
				if m.Has(i) {
					t.Errorf("of %d: Has(%d)", n, i)
				}
			}
		}
		holds(t, empty, n)
		shows(t, all, slices.Repeat([]bool{true}, n))
	}
}

func TestLeft(t *testing.T) {
	m := fresh(t, 4096)
	for k, i := range []int{4095, 0, 7, 8, 2048, 4088} {
		if err := m.Set(i); err != nil || m.Left() != 4095-k {
			t.Errorf("Set(%d): %v, Left %d", i, err, m.Left())
		}
	}
	if m.Set(0) == nil || m.Set(4096) == nil || m.Free(1) == nil || m.Free(-1) == nil || m.Left() != 4090 {
		t.Errorf("Left is %d", m.Left())
	}
	if m.Free(8) != nil || m.Left() != 4091 {
		t.Errorf("behind Free, Left is %d", m.Left())
	}
	takes(t, m, 1)
	if m.Left() != 4090 {
		t.Errorf("behind Take, Left is %d", m.Left())
	}
}

func TestBytes(t *testing.T) {
	for _, c := range []struct {
		n     int
		taken []int
		want  []byte
	}{
		{0, nil, nil},
		{1, nil, []byte{0}},
		{1, []int{0}, []byte{1}},
		{7, []int{6}, []byte{64}},
		{8, []int{7}, []byte{128}},
		{8, []int{0, 1, 2, 3, 4, 5, 6, 7}, []byte{255}},
		{9, []int{7}, []byte{128, 0}},
		{9, []int{8}, []byte{0, 1}},
		{11, []int{0, 2, 9}, []byte{5, 2}},
		{16, []int{15, 0}, []byte{1, 128}},
		{17, []int{16, 5}, []byte{32, 0, 1}},
		{4096, []int{4095, 4088, 0}, slices.Concat([]byte{1}, make([]byte, 510), []byte{129})},
		{4095, []int{4094}, slices.Concat(make([]byte, 511), []byte{64})},
	} {
		if b := with(t, c.n, c.taken...).Bytes(); !bytes.Equal(b, c.want) {
			t.Errorf("%v of %d: Bytes are %v, want %v", c.taken, c.n, b, c.want)
		}
		holds(t, load(t, c.n, c.want), c.n, c.taken...)
	}
	for _, n := range sizes {
		if got := len(fresh(t, n).Bytes()); got != (n+7)/8 {
			t.Errorf("of %d: %d Bytes", n, got)
		}
	}
}

func TestBytesAreCopies(t *testing.T) {
	for _, n := range []int{1, 8, 11, 4095, 4096} {
		m := with(t, n, 0)
		one, two := m.Bytes(), m.Bytes()
		for _, b := range [][]byte{one, m.Bytes()} {
			b = b[:cap(b)]
			for k := range b {
				b[k] = 0xaa
			}
		}
		holds(t, m, n, 0)
		if !bytes.Equal(two, packed(append([]bool{true}, make([]bool, n-1)...))) {
			t.Errorf("of %d: two answers share memory", n)
		}
		if n > 1 {
			takes(t, m, 1)
			if two[0] != 1 {
				t.Errorf("of %d: Take changed an answer", n)
			}
		}
	}
}

// TestLoadEverything goes through all bytes for each small length.
func TestLoadEverything(t *testing.T) {
	for n := range 17 {
		for bits := range 1 << ((n + 7) / 8 * 8) {
			b := []byte{byte(bits), byte(bits >> 8)}[:(n+7)/8]
			m, err := bitmap.Load(n, b)
			if bits>>n != 0 {
				if m != nil || !errors.Is(err, api.ErrBroken) {
					t.Fatalf("Load(%d, %v): %v, %v", n, b, m, err)
				}
				continue
			}
			if m == nil || err != nil || !bytes.Equal(m.Bytes(), b) {
				t.Fatalf("Load(%d, %v): %v, %v", n, b, m, err)
			}
			for i := range n {
				if m.Has(i) != (bits>>i&1 == 1) {
					t.Fatalf("Load(%d, %v): Has(%d) is %v", n, b, i, m.Has(i))
				}
			}
		}
	}
}

func TestLoadGoesOn(t *testing.T) {
	m := load(t, 11, []byte{5, 2})
	holds(t, m, 11, 0, 2, 9)
	takes(t, m, 1)
	takes(t, m, 3)
	if m.Free(9) != nil || m.Set(10) != nil || !errors.Is(m.Set(0), api.ErrBroken) || !errors.Is(m.Free(9), api.ErrBroken) {
		t.Error("a loaded map isn't as one that was made")
	}
	holds(t, m, 11, 0, 1, 2, 3, 10)
	for _, n := range sizes {
		isFull(t, full(t, n))
	}
}

func TestLoadLength(t *testing.T) {
	for _, n := range sizes {
		for _, length := range []int{0, 1, n/8 - 1, (n+7)/8 - 1, (n+7)/8 + 1, n/8 + 2, n, 511, 512, 513, 4096} {
			if length < 0 || length == (n+7)/8 {
				continue
			}
			for _, c := range []byte{0, 255} {
				m, err := bitmap.Load(n, bytes.Repeat([]byte{c}, length))
				if m != nil || !errors.Is(err, api.ErrBroken) {
					t.Errorf("Load(%d, %d bytes): %v, %v", n, length, m, err)
				}
			}
		}
	}
}

func TestLoadBitsBeyond(t *testing.T) {
	for _, n := range sizes {
		for i := n; i < (n+7)/8*8; i++ {
			for _, c := range []byte{0, 255} {
				b := bytes.Repeat([]byte{c}, (n+7)/8)
				b[len(b)-1] = packed(slices.Repeat([]bool{c > 0}, n))[len(b)-1]
				load(t, n, b)
				b[i/8] |= 1 << (i % 8)
				if m, err := bitmap.Load(n, b); m != nil || !errors.Is(err, api.ErrBroken) {
					t.Errorf("Load(%d) with bit %d: %v, %v", n, i, m, err)
				}
			}
		}
	}
}

// TestLoadRange: where n may not be, the bytes don't matter.
func TestLoadRange(t *testing.T) {
	for _, n := range none {
		for _, length := range []int{0, 1, 2, 512, 513, 600} {
			for _, c := range []byte{0, 1, 255} {
				m, err := bitmap.Load(n, bytes.Repeat([]byte{c}, length))
				if m != nil || !errors.Is(err, api.ErrRange) {
					t.Errorf("Load(%d, %d bytes): %v, %v", n, length, m, err)
				}
			}
		}
		if m, err := bitmap.Load(n, nil); m != nil || !errors.Is(err, api.ErrRange) {
			t.Errorf("Load(%d, nil): %v, %v", n, m, err)
		}
	}
}

func TestLoadOfNothing(t *testing.T) {
	for _, b := range [][]byte{nil, {}} {
		holds(t, load(t, 0, b), 0)
		isFull(t, load(t, 0, b))
		if m, err := bitmap.Load(1, b); m != nil || !errors.Is(err, api.ErrBroken) {
			t.Errorf("Load(1, %v): %v, %v", b, m, err)
		}
	}
}

func TestLoadLeavesItsArgument(t *testing.T) {
	room := bytes.Repeat([]byte{0xff}, 10)
	room[0] = 1
	given := slices.Clone(room)
	m := load(t, 16, room[:2])
	takes(t, m, 1)
	if m.Free(15) != nil || !bytes.Equal(room, given) {
		t.Errorf("bytes were changed: %v", room)
	}
	before := m.Bytes()
	clear(room)
	if !bytes.Equal(m.Bytes(), before) {
		t.Error("Load keeps what it was handed")
	}
}

func TestMapsAreApart(t *testing.T) {
	m := with(t, 10, 0, 9)
	o := load(t, 10, m.Bytes())
	p := fresh(t, 10)
	takes(t, o, 1)
	if m.Free(9) != nil {
		t.Error("Free is refused")
	}
	holds(t, m, 10, 0)
	holds(t, o, 10, 0, 1, 9)
	holds(t, p, 10)
	holds(t, fresh(t, 10), 10)
}

func TestNilMap(t *testing.T) {
	var m *bitmap.Map
	if i, err := m.Take(); i != -1 || !errors.Is(err, api.ErrRange) {
		t.Errorf("Take: %d, %v", i, err)
	}
	for _, i := range outside(0) {
		if err := m.Set(i); !errors.Is(err, api.ErrRange) {
			t.Errorf("Set(%d): %v", i, err)
		}
		if err := m.Free(i); !errors.Is(err, api.ErrRange) {
			t.Errorf("Free(%d): %v", i, err)
		}
		if m.Has(i) {
			t.Errorf("Has(%d)", i)
		}
	}
	if m.Left() != 0 || len(m.Bytes()) != 0 {
		t.Errorf("Left %d, Bytes %v", m.Left(), m.Bytes())
	}
}

// TestBlankMap: one that neither New nor Load made has no numbers.
func TestBlankMap(t *testing.T) {
	m := new(bitmap.Map)
	holds(t, m, 0)
	isFull(t, m)
	if !errors.Is(m.Set(0), api.ErrRange) || !errors.Is(m.Free(0), api.ErrRange) {
		t.Error("a blank map has a number")
	}
}

// play lets a map and a plain list of bools do what the bytes say.
func play(t *testing.T, n int, script []byte) {
	m, want := fresh(t, n), make([]bool, n)
	for len(script) >= 3 && !t.Failed() {
		i := (int(script[1])+int(script[2])<<8)%(n+2) - 1
		has := i >= 0 && i < n
		switch script[0] % 8 {
		case 0, 1, 2:
			k := slices.Index(want, false)
			if k < 0 {
				isFull(t, m)
				break
			}
			takes(t, m, k)
			want[k] = true
		case 3, 4:
			change(t, "Set", m.Set(i), has, has && want[i])
			if has {
				want[i] = true
			}
		case 5, 6:
			change(t, "Free", m.Free(i), has, has && !want[i])
			if has {
				want[i] = false
			}
		default:
			m = load(t, n, m.Bytes())
		}
		shows(t, m, want)
		script = script[3:]
	}
}

// change checks what a Set or Free answered.
func change(t *testing.T, name string, err error, has, already bool) {
	t.Helper()
	ok := err == nil
	if !has {
		ok = errors.Is(err, api.ErrRange)
	} else if already {
		ok = errors.Is(err, api.ErrBroken)
	}
	if !ok {
		t.Errorf("%s: %v, of its numbers %v, already %v", name, err, has, already)
	}
}

func TestAgainstModel(t *testing.T) {
	x := uint32(1)
	for n := range 70 {
		script := make([]byte, 900)
		for i := range script {
			x = x*1664525 + 1013904223
			script[i] = byte(x >> 24)
		}
		play(t, n, script)
		if t.Failed() {
			t.Fatalf("of %d, script %v", n, script)
		}
	}
}

func FuzzAgainstModel(f *testing.F) {
	f.Add(uint16(11), []byte{0, 0, 0, 3, 5, 0, 5, 1, 0, 7, 0, 0})
	f.Add(uint16(4096), []byte{3, 0, 16, 5, 0, 16, 0, 0, 0})
	f.Fuzz(func(t *testing.T, n uint16, script []byte) { play(t, int(n)%4097, script) })
}

func FuzzLoad(f *testing.F) {
	f.Add(11, []byte{5, 2})
	f.Add(-1, []byte{})
	f.Add(4097, make([]byte, 513))
	f.Fuzz(func(t *testing.T, n int, b []byte) {
		m, err := bitmap.Load(n, b)
		switch {
		case n < 0 || n > 4096:
			if m != nil || !errors.Is(err, api.ErrRange) {
				t.Errorf("%v, %v", m, err)
			}
		case len(b) != (n+7)/8 || n%8 > 0 && b[len(b)-1] >= 1<<(n%8):
			if m != nil || !errors.Is(err, api.ErrBroken) {
				t.Errorf("%v, %v", m, err)
			}
		case m == nil || err != nil || !bytes.Equal(m.Bytes(), b):
			t.Errorf("%v, %v", m, err)
		}
	})
}
