package codec_test

import (
	"bytes"
	"errors"
	"math"
	"math/rand/v2"
	"reflect"
	"strings"
	"testing"

	"lychgate/api"
	"lychgate/codec"
)

// numbers are those at the ends of types, and at and beside the lengths of
// their bytes.
func numbers() []int64 {
	l := []int64{0, math.MinInt64, math.MinInt64 + 1, math.MaxInt64 - 1}
	for k := range 63 {
		for _, near := range []int64{-5, -4, -1, 0, 1, 4, 5} {
			l = append(l, 1<<k+near, -1<<k+near)
		}
	}
	return append(l, math.MaxInt64)
}

// texts are empty ones, long ones, and ones of any bytes.
func texts() []string {
	l := []string{
		"", "a", "b", "ab", "A", "ann", "two words", "\n", "\x00", "\x00\x00", "\x01", "\x7f", "\x80", "\xff", "\xff\xff\xff\xff",
		"é", "\xc3", "日本", "W", "E", "W\x00\x00\x00\x00\x00\x00\x00\x00\x00", "E\x00\x00\x00\x00",
		strings.Repeat("0123456789abcdef", 4),
	}
	for _, n := range []int{127, 128, 129, 247, 248, 255, 256, 257, 4095, 4096, 65535, 65536, 70000} {
		l = append(l, strings.Repeat("x", n), strings.Repeat("\x00", n))
	}
	every := make([]byte, 256)
	for i := range every {
		every[i] = byte(i)
	}
	return append(l, string(every))
}

// town is a world with rows in every list, as a game has them.
func town() *api.World {
	return &api.World{
		Now: 1234, Next: 17, Minted: 5000,
		Chars: []api.Char{
			{Name: "ann", Hash: "816f9bf0", On: true, Room: 3, Hp: 20, Xp: 150, Gold: 77, Bank: 1000, Foe: 9, Done: []int{1, 4}},
			{Name: "bob", Hash: "b3fa90e2", Room: 1, Hp: 1},
			{Name: "cy", Hash: "", On: true, Room: 2, Hp: 300, Gold: api.MaxGold, Done: []int{2}},
		},
		Things: []api.Thing{
			{Id: 1, Proto: 10, Place: api.InRoom, Room: 4},
			{Id: 2, Proto: 11, Place: api.Carried, Who: "ann"},
			{Id: 5, Proto: 10, Place: api.Worn, Who: "bob"},
			{Id: 8, Proto: 12, Place: api.InLot},
		},
		Mobs:   []api.Mob{{Id: 9, Proto: 1, Room: 3, Hp: 6}, {Id: 12, Proto: 1, Room: 5, Hp: 10}},
		Houses: []api.House{{Room: 7, Owner: "ann", Guests: []string{"bob", "cy"}, Chest: 40}, {Room: 8, Owner: "cy"}},
		Lots:   []api.Lot{{Id: 15, Thing: 8, Seller: "bob", Min: 5, Bid: 9, Bidder: "ann", Ends: 1250}, {Id: 16, Thing: 3, Seller: "cy", Min: 1}},
		Tills:  []api.Till{{Room: 2, Gold: 500}, {Room: 6, Gold: 0}},
	}
}

// odd is a world with rows in every list, as no game has them.
func odd() *api.World {
	return &api.World{
		Now: math.MinInt64, Next: math.MaxInt64, Minted: -1,
		Chars: []api.Char{
			{}, {},
			{Name: "\x00\xff", Hash: strings.Repeat("h", 200), On: true, Room: math.MinInt, Hp: -1, Xp: math.MaxInt64, Gold: math.MinInt64, Bank: -300, Foe: 300, Done: []int{5, -5, 5, 0, math.MinInt, math.MaxInt}},
			{Name: "ann"}, {Done: []int{0}},
		},
		Things: []api.Thing{{Id: math.MaxInt64, Proto: math.MinInt, Place: -1, Room: math.MaxInt, Who: "\xff"}, {}, {Id: -2}},
		Mobs:   []api.Mob{{}, {Id: math.MinInt64, Proto: -1, Room: 1 << 40, Hp: math.MinInt64}},
		Houses: []api.House{{Guests: []string{"", "", "b", "a", "\x80"}}, {Room: -9, Owner: "\n", Chest: math.MinInt64}},
		Lots:   []api.Lot{{Id: -1, Thing: math.MinInt64, Seller: "s", Min: -2, Bid: math.MaxInt64, Bidder: strings.Repeat("b", 128), Ends: -1}, {}},
		Tills:  []api.Till{{Room: math.MinInt, Gold: math.MaxInt64}, {}, {}},
	}
}

// bare are worlds with hardly anything in them.
func bare() []*api.World {
	return []*api.World{
		{},
		{Now: 1}, {Next: 1}, {Minted: 1},
		{Chars: []api.Char{{}}}, {Things: []api.Thing{{}}}, {Mobs: []api.Mob{{}}},
		{Houses: []api.House{{}}}, {Lots: []api.Lot{{}}}, {Tills: []api.Till{{}}},
		{Chars: []api.Char{{Done: []int{0}}}}, {Houses: []api.House{{Guests: []string{""}}}},
		{Chars: []api.Char{{}, {}}}, {Tills: []api.Till{{}, {}}},
	}
}

func worlds() []*api.World {
	return append(bare(), town(), odd())
}

// events are of every kind, and of kinds that there are not.
func events() []api.Event {
	return []api.Event{
		{},
		{Kind: api.ENew, Name: "ann", Text: "816f9bf0766e9b74f04ecb467e9977d9b3c0ac5af8b6373246d575de00d2c8ad"},
		{Kind: api.EOn, Name: "ann"},
		{Kind: api.EOff, Name: "ann"},
		{Kind: api.ECmd, Name: "bob", Text: "hit the gnome", Dice: []int{6, 1, 20}},
		{Kind: api.ECmd, Name: "bob", Text: "", Dice: []int{0}},
		{Kind: api.ETick, Dice: []int{3, 3, 3, 3}},
		{Kind: api.EBoot},
		{Kind: 7}, {Kind: -1}, {Kind: math.MinInt}, {Kind: math.MaxInt},
		{Name: "a"}, {Text: "a"}, {Name: "ab", Text: "c"}, {Name: "a", Text: "bc"},
		{Kind: -1, Name: "\x00\xff", Text: strings.Repeat("\x80", 300), Dice: []int{math.MinInt, math.MaxInt, -1, 0, 1, 124, -124, -125}},
		{Dice: make([]int, 127)}, {Dice: make([]int, 128)}, {Dice: make([]int, 5000)},
	}
}

// plain makes of a pointer's thing one whose empty lists are nil, so that
// reflect.DeepEqual tells of fields alone. It shares no list with it.
func plain[T any](x *T) *T {
	c := new(T)
	copyInto(reflect.ValueOf(c).Elem(), reflect.ValueOf(x).Elem())
	return c
}

func copyInto(to, from reflect.Value) {
	switch from.Kind() {
	case reflect.Struct:
		for i := range from.NumField() {
			copyInto(to.Field(i), from.Field(i))
		}
	case reflect.Slice:
		if from.Len() == 0 {
			return
		}
		to.Set(reflect.MakeSlice(from.Type(), from.Len(), from.Len()))
		for i := range from.Len() {
			copyInto(to.Index(i), from.Index(i))
		}
	default:
		to.Set(from)
	}
}

// same tells whether all fields of two things are the same, without the package.
func same[T any](a, b *T) bool {
	return reflect.DeepEqual(plain(a), plain(b))
}

// goesAndComes checks that a world's bytes are read as it, and answers them.
func goesAndComes(t testing.TB, w *api.World) []byte {
	t.Helper()
	b := codec.World(w)
	x, err := codec.ReadWorld(b)
	if err != nil || x == nil {
		t.Fatalf("ReadWorld(World(%.200v)) is %v, error %v", *w, x, err)
	}
	if !same(x, w) {
		t.Errorf("ReadWorld(World(%.200v)) is %.200v", *w, *x)
	}
	if !codec.EqWorld(x, w) || !codec.EqWorld(w, x) || !codec.EqWorld(w, w) {
		t.Errorf("EqWorld of %.200v and itself is false", *w)
	}
	if again := codec.World(x); !bytes.Equal(again, b) {
		t.Errorf("World of what was read of %.200q is %.200q", b, again)
	}
	if len(b) > most(w) {
		t.Errorf("World(%.200v) has %d bytes, at most %d may be", *w, len(b), most(w))
	}
	return b
}

// eventGoesAndComes checks that an event's bytes are read as it, and answers them.
func eventGoesAndComes(t testing.TB, e api.Event) []byte {
	t.Helper()
	b := codec.Event(e)
	x, err := codec.ReadEvent(b)
	if err != nil {
		t.Fatalf("ReadEvent(Event(%.200v)): error %v", e, err)
	}
	if !same(&x, &e) {
		t.Errorf("ReadEvent(Event(%.200v)) is %.200v", e, x)
	}
	if !codec.EqEvent(x, e) || !codec.EqEvent(e, x) || !codec.EqEvent(e, e) {
		t.Errorf("EqEvent of %.200v and itself is false", e)
	}
	if again := codec.Event(x); !bytes.Equal(again, b) {
		t.Errorf("Event of what was read of %.200q is %.200q", b, again)
	}
	if len(b) > mostOfEvent(e) {
		t.Errorf("Event(%.200v) has %d bytes, at most %d may be", e, len(b), mostOfEvent(e))
	}
	return b
}

// differ checks that two worlds, whose bytes are handed in, are told apart.
func differ(t testing.TB, v, w *api.World, bv, bw []byte) {
	t.Helper()
	if codec.EqWorld(v, w) || codec.EqWorld(w, v) {
		t.Errorf("EqWorld(%.200v, %.200v) is true", *v, *w)
	}
	if bytes.Equal(bv, bw) {
		t.Errorf("%.200v and %.200v have the same bytes", *v, *w)
	}
}

// eventsDiffer checks that two events, whose bytes are handed in, are told apart.
func eventsDiffer(t testing.TB, d, e api.Event, bd, be []byte) {
	t.Helper()
	if codec.EqEvent(d, e) || codec.EqEvent(e, d) {
		t.Errorf("EqEvent(%.200v, %.200v) is true", d, e)
	}
	if bytes.Equal(bd, be) {
		t.Errorf("%.200v and %.200v have the same bytes", d, e)
	}
}

// takenOrBroken checks what ReadWorld says of any bytes: they are those of the
// world that they are read as, or broken. It answers which.
func takenOrBroken(t testing.TB, b []byte) bool {
	t.Helper()
	w, err := codec.ReadWorld(b)
	if err != nil {
		if !errors.Is(err, api.ErrBroken) || w != nil {
			t.Fatalf("ReadWorld(%.200q) is %v, error %v", b, w, err)
		}
		return false
	}
	if w == nil {
		t.Fatalf("ReadWorld(%.200q) is nil without an error", b)
	}
	if again := codec.World(w); !bytes.Equal(again, b) {
		t.Fatalf("ReadWorld(%.200q) is a world whose bytes are %.200q", b, again)
	}
	return true
}

// eventTakenOrBroken does the same for ReadEvent.
func eventTakenOrBroken(t testing.TB, b []byte) bool {
	t.Helper()
	e, err := codec.ReadEvent(b)
	if err != nil {
		if !errors.Is(err, api.ErrBroken) || e.Kind != 0 || e.Name != "" || e.Text != "" || len(e.Dice) != 0 {
			t.Fatalf("ReadEvent(%.200q) is %.200v, error %v", b, e, err)
		}
		return false
	}
	if again := codec.Event(e); !bytes.Equal(again, b) {
		t.Fatalf("ReadEvent(%.200q) is an event whose bytes are %.200q", b, again)
	}
	return true
}

// dicey makes things of any kind by dice.
type dicey struct{ *rand.Rand }

func newDicey(seed uint64) dicey {
	return dicey{rand.New(rand.NewPCG(seed, 9))}
}

// fill fills all fields by dice, with at most rows rows in each list.
func (d dicey) fill(v reflect.Value, rows int) {
	switch v.Kind() {
	case reflect.Struct:
		for i := range v.NumField() {
			d.fill(v.Field(i), rows)
		}
	case reflect.Slice:
		n := d.IntN(rows + 1)
		v.Set(reflect.MakeSlice(v.Type(), n, n+d.IntN(3)))
		for i := range n {
			d.fill(v.Index(i), rows)
		}
	case reflect.Bool:
		v.SetBool(d.IntN(2) == 0)
	case reflect.String:
		b := make([]byte, d.IntN(4))
		for i := range b {
			b[i] = byte(d.Uint32())
		}
		v.SetString(string(b))
	default:
		v.SetInt(int64(d.Uint64()) >> d.IntN(64))
	}
}

func (d dicey) world(rows int) *api.World {
	w := new(api.World)
	d.fill(reflect.ValueOf(w).Elem(), rows)
	return w
}

func (d dicey) event(rows int) api.Event {
	var e api.Event
	d.fill(reflect.ValueOf(&e).Elem(), rows)
	return e
}
