package codec_test

import (
	"bytes"
	"reflect"
	"slices"
	"testing"

	"lychgate/api"
	"lychgate/codec"
)

// roomy makes a copy of a thing whose lists have spare room, full of rows that
// are not zero.
func roomy[T any](x *T) *T {
	c := plain(x)
	visit(reflect.ValueOf(c).Elem(), func(path []int) {
		v := at(reflect.ValueOf(c).Elem(), path)
		if v.Kind() != reflect.Slice {
			return
		}
		wide := reflect.MakeSlice(v.Type(), v.Len()+3, v.Len()+3)
		reflect.Copy(wide, v)
		for i := v.Len(); i < wide.Len(); i++ {
			scribble(wide.Index(i), int64(i)+100)
		}
		v.Set(wide.Slice(0, v.Len()))
	}, nil)
	return c
}

// scribble writes over all that is not a list, at any depth.
func scribble(v reflect.Value, n int64) {
	switch v.Kind() {
	case reflect.Struct:
		for i := range v.NumField() {
			scribble(v.Field(i), n)
		}
	case reflect.String:
		v.SetString("scribbled")
	case reflect.Bool:
		v.SetBool(!v.Bool())
	case reflect.Int, reflect.Int64, reflect.Uint8:
		if v.CanInt() {
			v.SetInt(n)
		} else {
			v.SetUint(uint64(n) & 255)
		}
	}
}

// wide answers all of a thing with its lists drawn out over their spare room.
func wide[T any](x *T) *T {
	c := new(T)
	*c = *x
	widen(reflect.ValueOf(c).Elem())
	return plain(c)
}

func widen(v reflect.Value) {
	switch v.Kind() {
	case reflect.Struct:
		for i := range v.NumField() {
			widen(v.Field(i))
		}
	case reflect.Slice:
		all := reflect.MakeSlice(v.Type(), v.Cap(), v.Cap())
		reflect.Copy(all, v.Slice(0, v.Cap()))
		for i := range all.Len() {
			widen(all.Index(i))
		}
		v.Set(all)
	}
}

// roomyBytes makes a copy of bytes with some others ahead and behind.
func roomyBytes(b []byte) (all, piece []byte) {
	all = append(bytes.Repeat([]byte{0xaa}, 10), b...)
	all = append(all, bytes.Repeat([]byte{0xbb}, 30)...)
	return all, all[10 : 10+len(b)]
}

// TestWorldsStay: World and EqWorld write neither into the lists of a world
// nor into their spare room.
func TestWorldsStay(t *testing.T) {
	for _, w := range worlds() {
		x, y := roomy(w), roomy(w)
		y.Now++
		wx, wy, want := wide(x), wide(y), codec.World(w)
		for range 2 {
			if b := codec.World(x); !bytes.Equal(b, want) {
				t.Errorf("World of %.200v, with room, is %.200q", *x, b)
			}
			if !codec.EqWorld(x, w) || codec.EqWorld(x, y) || codec.EqWorld(y, x) {
				t.Errorf("EqWorld hangs on the room of %.200v", *w)
			}
		}
		if !reflect.DeepEqual(wide(x), wx) || !reflect.DeepEqual(wide(y), wy) {
			t.Errorf("a call changed %.200v", *w)
		}
	}
}

func TestEventsStay(t *testing.T) {
	for _, e := range events() {
		x, y := roomy(&e), roomy(&e)
		y.Kind++
		wx, wy, want := wide(x), wide(y), codec.Event(e)
		for range 2 {
			if b := codec.Event(*x); !bytes.Equal(b, want) {
				t.Errorf("Event of %.200v, with room, is %.200q", *x, b)
			}
			if !codec.EqEvent(*x, e) || codec.EqEvent(*x, *y) || codec.EqEvent(*y, *x) {
				t.Errorf("EqEvent hangs on the room of %.200v", e)
			}
		}
		if !reflect.DeepEqual(wide(x), wx) || !reflect.DeepEqual(wide(y), wy) {
			t.Errorf("a call changed %.200v", e)
		}
	}
}

// TestBytesStay: ReadWorld and ReadEvent write neither into the bytes nor
// beside them, be they good or broken, and don't read beside them either.
func TestBytesStay(t *testing.T) {
	for _, good := range goodBytes() {
		for _, b := range [][]byte{good, good[:len(good)-1], good[:len(good)/2], append(slices.Clone(good), 0), {}} {
			all, piece := roomyBytes(b)
			was := slices.Clone(all)
			w, err := codec.ReadWorld(b)
			x, errRoomy := codec.ReadWorld(piece)
			if !codec.EqWorld(w, x) || err != errRoomy {
				t.Errorf("ReadWorld(%.200q) hangs on what stands behind", b)
			}
			d, err := codec.ReadEvent(b)
			e, errRoomy := codec.ReadEvent(piece)
			if !codec.EqEvent(d, e) || err != errRoomy {
				t.Errorf("ReadEvent(%.200q) hangs on what stands behind", b)
			}
			if !bytes.Equal(all, was) {
				t.Errorf("reading changed %.200q", b)
			}
		}
	}
}

// TestBytesAreNotKept writes over the bytes behind a call.
func TestBytesAreNotKept(t *testing.T) {
	for _, w := range worlds() {
		b := codec.World(w)
		x, err := codec.ReadWorld(b)
		for i := range b[:cap(b)] {
			b[:cap(b)][i] ^= 0x55
		}
		if err != nil || !same(x, w) {
			t.Errorf("a world that was read of %.200v hangs on the bytes", *w)
		}
	}
	for _, e := range events() {
		b := codec.Event(e)
		x, err := codec.ReadEvent(b)
		for i := range b[:cap(b)] {
			b[:cap(b)][i] ^= 0x55
		}
		if err != nil || !same(&x, &e) {
			t.Errorf("an event that was read of %.200v hangs on the bytes", e)
		}
	}
}

// TestBytesAreNew: what World and Event answer hangs neither on the lists any
// more nor on another answer.
func TestBytesAreNew(t *testing.T) {
	for _, w := range worlds() {
		x := roomy(w)
		first, second := codec.World(x), codec.World(x)
		want := slices.Clone(first)
		overwrite(reflect.ValueOf(x).Elem())
		if !bytes.Equal(first, want) {
			t.Errorf("the bytes of %.200v hang on it", *w)
		}
		clear(first[:cap(first)])
		if !bytes.Equal(second, want) || !bytes.Equal(codec.World(w), want) {
			t.Errorf("two answers for %.200v share memory", *w)
		}
	}
	for _, e := range events() {
		x := roomy(&e)
		first, second := codec.Event(*x), codec.Event(*x)
		want := slices.Clone(first)
		overwrite(reflect.ValueOf(x).Elem())
		if !bytes.Equal(first, want) {
			t.Errorf("the bytes of %.200v hang on it", e)
		}
		clear(first[:cap(first)])
		if !bytes.Equal(second, want) || !bytes.Equal(codec.Event(e), want) {
			t.Errorf("two answers for %.200v share memory", e)
		}
	}
}

// overwrite writes over all lists below v, the innermost first.
func overwrite(v reflect.Value) {
	switch v.Kind() {
	case reflect.Struct:
		for i := range v.NumField() {
			overwrite(v.Field(i))
		}
	case reflect.Slice:
		all := v.Slice(0, v.Cap())
		for i := range all.Len() {
			overwrite(all.Index(i))
			scribble(all.Index(i), 77)
		}
	}
}

// TestAnswersAreNew writes over all of one world that was read: another one of
// the same bytes is as it was.
func TestAnswersAreNew(t *testing.T) {
	for _, w := range worlds() {
		b := codec.World(w)
		x, _ := codec.ReadWorld(b)
		y, _ := codec.ReadWorld(b)
		overwrite(reflect.ValueOf(x).Elem())
		*x = api.World{}
		z, err := codec.ReadWorld(b)
		if err != nil || !same(y, w) || !same(z, w) || !bytes.Equal(b, codec.World(w)) {
			t.Errorf("two worlds that were read of %.200v share memory", *w)
		}
	}
	for _, e := range events() {
		b := codec.Event(e)
		x, _ := codec.ReadEvent(b)
		y, _ := codec.ReadEvent(b)
		overwrite(reflect.ValueOf(&x).Elem())
		z, err := codec.ReadEvent(b)
		if err != nil || !same(&y, &e) || !same(&z, &e) || !bytes.Equal(b, codec.Event(e)) {
			t.Errorf("two events that were read of %.200v share memory", e)
		}
	}
}

// TestListsOfAnAnswer fills the spare room of each list of a world that was
// read, as one who appends does: no other list of it is changed.
func TestListsOfAnAnswer(t *testing.T) {
	guests := []string{"a", "b", "c"}
	w := &api.World{
		Chars:  []api.Char{{Done: []int{1, 2, 3}}, {Done: []int{4, 5, 6}}, {Done: []int{7}}},
		Houses: []api.House{{Guests: guests}, {Guests: guests}, {Guests: guests[:1]}},
		Things: make([]api.Thing, 5), Mobs: make([]api.Mob, 5), Lots: make([]api.Lot, 5), Tills: make([]api.Till, 5),
	}
	for _, w := range append(worlds(), w) {
		x, err := codec.ReadWorld(codec.World(w))
		if err != nil {
			t.Fatal(err)
		}
		visit(reflect.ValueOf(x).Elem(), func(path []int) {
			v := at(reflect.ValueOf(x).Elem(), path)
			if v.Kind() != reflect.Slice {
				return
			}
			for i := v.Len(); i < v.Cap(); i++ {
				scribble(v.Slice(0, v.Cap()).Index(i), 77)
			}
		}, nil)
		if !same(x, w) {
			t.Errorf("lists of a world that was read of %.200v share memory", *w)
		}
	}
}

// TestCallsHangOnNothingElse mixes calls: each answers what it did alone.
func TestCallsHangOnNothingElse(t *testing.T) {
	all := worlds()
	want := make([][]byte, len(all))
	for i, w := range all {
		want[i] = codec.World(w)
	}
	for i := range all {
		codec.ReadWorld(want[i][:len(want[i])-1])
		codec.ReadEvent([]byte("E\x00\xff"))
		for k, w := range all {
			if !bytes.Equal(codec.World(w), want[k]) {
				t.Errorf("World(%.200v) hangs on a call ahead of it", *w)
			}
			if x, err := codec.ReadWorld(want[k]); err != nil || !same(x, w) {
				t.Errorf("ReadWorld(%.200q) hangs on a call ahead of it", want[k])
			}
		}
	}
}
