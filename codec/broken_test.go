package codec_test

import (
	"bytes"
	"math"
	"runtime"
	"slices"
	"strings"
	"testing"

	"lychgate/api"
	"lychgate/codec"
)

// broken checks that no world and no event has these bytes.
func broken(t testing.TB, what string, b []byte) {
	t.Helper()
	if takenOrBroken(t, b) {
		t.Errorf("%s: ReadWorld(%.200q) is OK", what, b)
	}
	if eventTakenOrBroken(t, b) {
		t.Errorf("%s: ReadEvent(%.200q) is OK", what, b)
	}
}

// goodBytes are the bytes of worlds and of events, short enough to try all
// that may happen to them.
func goodBytes() [][]byte {
	var all [][]byte
	for _, w := range worlds() {
		all = append(all, codec.World(w))
	}
	for _, e := range events() {
		if len(e.Dice) < 200 {
			all = append(all, codec.Event(e))
		}
	}
	return all
}

func TestNoBytes(t *testing.T) {
	broken(t, "nil", nil)
	broken(t, "none", []byte{})
	broken(t, "none, with room", make([]byte, 0, 100))
	broken(t, "none of good ones", codec.World(&api.World{})[:0])
}

func TestFronts(t *testing.T) {
	for _, b := range goodBytes() {
		for n := range b {
			broken(t, "a front", b[:n])
			broken(t, "a front alone", slices.Clone(b[:n]))
		}
	}
}

func TestEnds(t *testing.T) {
	for _, b := range goodBytes() {
		for n := 1; n < len(b); n++ {
			takenOrBroken(t, b[n:])
			eventTakenOrBroken(t, b[n:])
		}
	}
}

// TestBytesBehind lays bytes behind, good ones too.
func TestBytesBehind(t *testing.T) {
	for _, b := range goodBytes() {
		for c := range 256 {
			broken(t, "a byte more", append(slices.Clone(b), byte(c)))
		}
		broken(t, "zeros behind", append(slices.Clone(b), make([]byte, 100)...))
		broken(t, "twice", append(slices.Clone(b), b...))
		broken(t, "an event behind", append(slices.Clone(b), codec.Event(api.Event{})...))
		broken(t, "a world behind", append(slices.Clone(b), codec.World(&api.World{})...))
		broken(t, "a byte ahead", append([]byte{0}, b...))
	}
}

// TestEveryByteChanged changes each byte into each other one: the bytes are
// those of another world or event then, or broken.
func TestEveryByteChanged(t *testing.T) {
	for _, good := range goodBytes() {
		w, _ := codec.ReadWorld(good)
		e, _ := codec.ReadEvent(good)
		b := slices.Clone(good)
		for i, was := range good {
			for c := range 256 {
				if byte(c) == was {
					continue
				}
				b[i] = byte(c)
				if takenOrBroken(t, b) {
					x, _ := codec.ReadWorld(b)
					if w == nil || codec.EqWorld(w, x) {
						t.Errorf("byte %d of %.200q as %d: the same world, or one of an event", i, good, c)
					}
				}
				if eventTakenOrBroken(t, b) {
					x, _ := codec.ReadEvent(b)
					if w != nil || codec.EqEvent(e, x) {
						t.Errorf("byte %d of %.200q as %d: the same event, or one of a world", i, good, c)
					}
				}
			}
			b[i] = was
		}
	}
}

// TestBytesTakenOutAndIn takes out each byte, doubles it, and changes it for
// its neighbour.
func TestBytesTakenOutAndIn(t *testing.T) {
	for _, good := range goodBytes() {
		for i, c := range good {
			out := slices.Delete(slices.Clone(good), i, i+1)
			in := slices.Insert(slices.Clone(good), i, c)
			zero := slices.Insert(slices.Clone(good), i, 0)
			turned := slices.Clone(good)
			turned[i], turned[max(i-1, 0)] = turned[max(i-1, 0)], turned[i]
			for _, b := range [][]byte{out, in, zero, turned} {
				takenOrBroken(t, b)
				eventTakenOrBroken(t, b)
			}
		}
	}
}

// TestOneForTheOther: no bytes are those of a world and of an event.
func TestOneForTheOther(t *testing.T) {
	d := newDicey(3)
	var all []*api.World
	for range 2000 {
		all = append(all, d.world(2))
	}
	for _, w := range append(all, worlds()...) {
		if b := codec.World(w); eventTakenOrBroken(t, b) {
			t.Errorf("the world's bytes %.200q are an event's", b)
		}
	}
	for _, e := range events() {
		if b := codec.Event(e); takenOrBroken(t, b) {
			t.Errorf("the event's bytes %.200q are a world's", b)
		}
	}
}

// TestAllShortBytes goes through all bytes up to a length, and through longer
// ones of few kinds of bytes behind each mark.
func TestAllShortBytes(t *testing.T) {
	for c := range 1 << 16 {
		b := []byte{byte(c >> 8), byte(c)}
		broken(t, "a byte", b[:1])
		broken(t, "two bytes", b)
	}
	for _, mark := range []byte("EW") {
		for c := range 1 << 16 {
			b := append([]byte{mark, byte(c >> 8), byte(c)}, make([]byte, 9)...)
			for n := 3; n <= len(b); n++ {
				takenOrBroken(t, b[:n])
				eventTakenOrBroken(t, b[:n])
			}
		}
	}
	if n := countTaken("E", []byte{0, 1, 2, 127, 128, 247, 248, 249, 255}, 5, eventTakenOrBroken, t); n == 0 {
		t.Error("none of the bytes are an event's")
	}
	if n := countTaken("W", []byte{0, 1, 248, 255}, 9, takenOrBroken, t); n == 0 {
		t.Error("none of the bytes are a world's")
	}
}

// countTaken counts the n bytes of some kinds, behind a mark, that are read.
func countTaken(mark string, kinds []byte, n int, read func(t testing.TB, b []byte) bool, t testing.TB) int {
	count := 0
	all := 1
	for range n {
		all *= len(kinds)
	}
	for c := range all {
		b := []byte(mark)
		for range n {
			b = append(b, kinds[c%len(kinds)])
			c /= len(kinds)
		}
		if read(t, b) {
			count++
		}
	}
	return count
}

// TestOtherForms writes numbers, lengths and bools in ways in which they could
// be read, but aren't written: they would be second bytes of the same thing.
func TestOtherForms(t *testing.T) {
	const e, w = "E\x00\x00\x00\x00", "W\x00\x00\x00\x00\x00\x00\x00\x00\x00"
	if string(codec.Event(api.Event{})) != e || string(codec.World(&api.World{})) != w {
		t.Fatal("the bytes are others than this test is of")
	}
	numbers := []string{
		"\xf8\x00", "\xf8\x01", "\xf8\xf7", "\xf9\x00\x00", "\xf9\x00\xf8", "\xf9\x00\xff", "\xfa\x00\xff\xff",
		"\xfb\x00\xff\xff\xff", "\xfc\x00\xff\xff\xff\xff", "\xfd\x00\xff\xff\xff\xff\xff", "\xfe\x00\xff\xff\xff\xff\xff\xff",
		"\xff\x00\xff\xff\xff\xff\xff\xff\xff", "\xff\x00\x00\x00\x00\x00\x00\x00\x00",
	}
	for _, n := range numbers {
		broken(t, "a number", []byte("E"+n+"\x00\x00\x00"))
		broken(t, "a die", []byte("E\x00\x00\x00\x01"+n))
		for at := 1; at <= 3; at++ {
			broken(t, "a number", []byte(w[:at]+n+w[at+1:]))
		}
		broken(t, "a till", []byte(w[:9]+"\x01\x00"+n))
	}
	for _, n := range []int{0, 1, 2, 126, 127} {
		length := string([]byte{128, 0, 0, byte(n)})
		text := strings.Repeat("x", n)
		broken(t, "a name", []byte("E\x00"+length+text+"\x00\x00"))
		broken(t, "a text", []byte("E\x00\x00"+length+text+"\x00"))
		broken(t, "dice", []byte("E\x00\x00\x00"+length+text))
		for at := 4; at <= 9; at++ {
			broken(t, "a list", []byte(w[:at]+length+w[at+1:]))
		}
		broken(t, "tills", []byte(w[:9]+length+strings.Repeat("\x00\x00", n)))
	}
	char := codec.World(&api.World{Chars: []api.Char{{On: true}}})
	at := bytes.Index(char, []byte{1, 0, 0, 1, 0})
	if at < 0 {
		t.Fatal("a character's bytes are others than this test is of")
	}
	for c := 2; c < 256; c++ {
		char[at+3] = byte(c)
		broken(t, "a bool", char)
	}
}

// TestLengthsFarBeyond has lengths of which only the beginning is there. They
// must not be believed: room is made only for what comes.
func TestLengthsFarBeyond(t *testing.T) {
	lengths := []string{"\x7f", "\x80\x00\x00\x80", "\x80\x01\x00\x00", "\x81\x00\x00\x00", "\xc0\x00\x00\x00", "\xff\xff\xff\xff", "\xff\xff\xff\xfe"}
	var all []string
	for _, n := range lengths {
		for _, rest := range []string{"", "\x00", "abc", strings.Repeat("\x00", 126)} {
			for at := 4; at <= 9; at++ {
				all = append(all, "W"+strings.Repeat("\x00", at-1)+n+rest)
			}
			all = append(all, "E\x00"+n+rest, "E\x00\x00"+n+rest, "E\x00\x00\x00"+n+rest)
			all = append(all, "W\x00\x00\x00\x01"+n+rest, "W\x00\x00\x00\x01\x00"+n+rest)
			all = append(all, "W\x00\x00\x00\x01\x00\x00\x00\x00\x00\x00\x00\x00\x00"+n+rest)
		}
	}
	var before, after runtime.MemStats
	runtime.ReadMemStats(&before)
	for _, b := range all {
		codec.ReadWorld([]byte(b))
		codec.ReadEvent([]byte(b))
	}
	runtime.ReadMemStats(&after)
	if took := after.TotalAlloc - before.TotalAlloc; took > uint64(len(all))<<16 {
		t.Errorf("%d short inputs took %d bytes of memory", len(all), took)
	}
	for _, b := range all {
		// Zeros may just be enough rows of few bytes each.
		if !takenOrBroken(t, []byte(b)) && !eventTakenOrBroken(t, []byte(b)) {
			continue
		}
		if len(b) < 127 {
			t.Errorf("%q is OK", b)
		}
	}
}

// TestManyBytesChanged changes several bytes at once, by dice.
func TestManyBytesChanged(t *testing.T) {
	d := newDicey(4)
	taken := 0
	for _, good := range goodBytes() {
		for range 3000 {
			b := slices.Clone(good)
			for range 1 + d.IntN(4) {
				b[d.IntN(len(b))] = byte(d.Uint32()) >> d.IntN(8)
			}
			b = b[:len(b)-d.IntN(2)*d.IntN(len(b))]
			if takenOrBroken(t, b) || eventTakenOrBroken(t, b) {
				taken++
			}
		}
	}
	if taken == 0 {
		t.Error("none of the changed bytes were read")
	}
}

// TestAnyBytes hands in bytes of no meaning.
func TestAnyBytes(t *testing.T) {
	d := newDicey(5)
	for range 100000 {
		b := make([]byte, d.IntN(60))
		for i := range b {
			b[i] = byte(d.Uint32()) >> d.IntN(8)
		}
		if len(b) > 0 && d.IntN(2) == 0 {
			b[0] = "WE"[d.IntN(2)]
		}
		takenOrBroken(t, b)
		eventTakenOrBroken(t, b)
	}
	broken(t, "zeros", make([]byte, 100000))
	broken(t, "ones", bytes.Repeat([]byte{255}, 100000))
}

func FuzzWorld(f *testing.F) {
	for _, w := range worlds() {
		f.Add(codec.World(w))
	}
	f.Fuzz(func(t *testing.T, b []byte) { takenOrBroken(t, b) })
}

func FuzzEvent(f *testing.F) {
	for _, e := range events() {
		f.Add(codec.Event(e))
	}
	f.Fuzz(func(t *testing.T, b []byte) { eventTakenOrBroken(t, b) })
}

func FuzzFields(f *testing.F) {
	f.Add(1, "ann", "look", 6, -1)
	f.Add(math.MinInt, "", "\x00", math.MaxInt, 0)
	f.Fuzz(func(t *testing.T, kind int, name, text string, a, b int) {
		eventGoesAndComes(t, api.Event{Kind: kind, Name: name, Text: text, Dice: []int{a, b}})
		goesAndComes(t, &api.World{
			Now:    int64(kind),
			Chars:  []api.Char{{Name: name, Hash: text, On: a > b, Hp: int64(a), Done: []int{b}}},
			Houses: []api.House{{Guests: []string{text, name}, Chest: int64(b)}},
		})
	})
}
