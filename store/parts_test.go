package store_test

import (
	"encoding/binary"
	"errors"
	"fmt"
	"hash/crc32"
	"math"
	"reflect"
	"strings"
	"testing"

	"lychgate/api"
	"lychgate/blockdev"
	"lychgate/codec"
	"lychgate/fs"
	"lychgate/journal"
	"lychgate/store"
)

const most = 200 * 512 // bytes of a file

// event makes an event, another one for each i.
func event(i int) api.Event {
	e := api.Event{Kind: i % 7, Name: fmt.Sprint("n", i), Dice: []int{i, -i, i * i}}
	if i%3 == 0 {
		e.Text = strings.Repeat("t", i%400)
	}
	return e
}

// longEvent makes an event of n bytes.
func longEvent(c byte, n int) api.Event {
	e := api.Event{Kind: api.ECmd, Text: strings.Repeat(string(rune('a'+c%26)), n)}
	for len(codec.Event(e)) > n {
		e.Text = e.Text[:len(e.Text)-1]
	}
	if len(codec.Event(e)) != n {
		panic("there is no event of so many bytes")
	}
	return e
}

// events are of every kind, and of kinds that there are not.
func events() []api.Event {
	return []api.Event{
		{},
		{Kind: api.ENew, Name: "ann", Text: strings.Repeat("0123456789abcdef", 4)},
		{Kind: api.EOn, Name: "ann"},
		{Kind: api.ECmd, Name: "ann", Text: "hit the gnome", Dice: []int{6, 1, 20}},
		{Kind: api.ETick, Dice: []int{3, 3, 3, 3}},
		{Kind: -1, Name: "\x00\xff", Text: strings.Repeat("\x80", 300), Dice: []int{math.MinInt, math.MaxInt, -1, 0, 1}},
		{Kind: api.ETick, Dice: make([]int, 700)},
		{Kind: api.EOff, Name: "ann"},
		{Kind: api.EBoot},
	}
}

// world makes a world, another one for each i.
func world(i int) *api.World {
	return &api.World{Now: int64(i), Minted: 5, Chars: []api.Char{{Name: "ann", On: i%2 > 0, Done: []int{i, 4}}}, Tills: []api.Till{{Room: i}}}
}

// longWorld makes a world of n bytes.
func longWorld(i, n int) *api.World {
	w := world(i)
	w.Chars[0].Hash = strings.Repeat(string(rune('a'+i%26)), n)
	for len(codec.World(w)) > n {
		w.Chars[0].Hash = w.Chars[0].Hash[1:]
	}
	if len(codec.World(w)) != n {
		panic("there is no world of so many bytes")
	}
	return w
}

// worlds are none, ones with hardly anything in them, and ones with rows in
// every list.
func worlds() []*api.World {
	return []*api.World{
		{}, nil, {Now: 1}, {Next: -1}, {Chars: []api.Char{{}}}, {Tills: []api.Till{{}, {}}}, {}, town(),
		longWorld(1, 4095), longWorld(2, 4096), longWorld(3, 4097), wide(20), longWorld(4, 9000), nil, nil, {Minted: math.MinInt64},
	}
}

// town is a world with rows in every list.
func town() *api.World {
	return &api.World{
		Now: 1234, Next: 17, Minted: 5000,
		Chars: []api.Char{
			{Name: "ann", Hash: "816f9bf0", On: true, Room: 3, Hp: 20, Xp: 150, Gold: 77, Bank: 1000, Foe: 9, Done: []int{1, 4}},
			{Name: "bob", Room: 1, Hp: 1, Done: []int{}},
		},
		Things: []api.Thing{{Id: 1, Proto: 10, Place: api.InRoom, Room: 4}, {Id: 2, Proto: 11, Place: api.Carried, Who: "ann"}},
		Mobs:   []api.Mob{{Id: 9, Proto: 1, Room: 3, Hp: 6}},
		Houses: []api.House{{Room: 7, Owner: "ann", Guests: []string{"bob", "cy"}, Chest: 40}, {Room: 8, Owner: "cy"}},
		Lots:   []api.Lot{{Id: 15, Thing: 8, Seller: "bob", Min: 5, Bid: 9, Bidder: "ann", Ends: 1250}},
		Tills:  []api.Till{{Room: 2, Gold: 500}, {Room: 6}},
	}
}

// wide is a world with so many rows in each list, each field of which takes as
// many bytes as a codec may take for it.
func wide(rows int) *api.World {
	w := &api.World{Now: math.MinInt64, Next: math.MinInt64, Minted: math.MinInt64}
	for i := range rows {
		n, k := math.MinInt64+int64(i), math.MinInt+i
		name := strings.Repeat("\xff", 24)
		w.Chars = append(w.Chars, api.Char{Name: name, Hash: strings.Repeat("h", 64), On: true, Room: k, Hp: n, Xp: n, Gold: n, Bank: n, Foe: n, Done: []int{k, k}})
		w.Things = append(w.Things, api.Thing{Id: n, Proto: k, Place: k, Room: k, Who: name})
		w.Mobs = append(w.Mobs, api.Mob{Id: n, Proto: k, Room: k, Hp: n})
		w.Houses = append(w.Houses, api.House{Room: k, Owner: name, Guests: []string{name, name}, Chest: n})
		w.Lots = append(w.Lots, api.Lot{Id: n, Thing: n, Seller: name, Min: n, Bid: n, Bidder: name, Ends: n})
		w.Tills = append(w.Tills, api.Till{Room: k, Gold: n})
	}
	return w
}

func made(t testing.TB, sectors int) (*blockdev.Disk, *fs.FS) {
	t.Helper()
	d := blockdev.New(sectors)
	well(t, fs.Mkfs(d))
	return d, mounted(t, d)
}

func mounted(t testing.TB, d *blockdev.Disk) *fs.FS {
	t.Helper()
	f, err := fs.Mount(d)
	well(t, err)
	return f
}

func opened(t testing.TB, f *fs.FS) *store.Store {
	t.Helper()
	s, err := store.Open(f)
	if err != nil || s == nil {
		t.Fatalf("Open: %v, %v", s, err)
	}
	return s
}

// well checks that calls are OK.
func well(t testing.TB, l ...error) {
	t.Helper()
	for k, err := range l {
		if err != nil {
			t.Fatalf("call %d: %v", k, err)
		}
	}
}

// refused checks that an error wraps just one of api's, want.
func refused(t testing.TB, what string, err error, want api.Err) {
	t.Helper()
	var e api.Err
	if !errors.As(err, &e) || e != want || err.Error() == "" {
		t.Errorf("%s: %v, want %v", what, err, want)
	}
	for k := api.ErrRange; k <= api.ErrLine; k++ {
		if errors.Is(err, k) != (k == want) {
			t.Errorf("%s: %v, want %v", what, err, want)
		}
	}
}

// state is what a store tells.
type state struct {
	world  *api.World
	events []api.Event
	number int
}

// holds checks what a store tells, without the codec's word for it.
func holds(t testing.TB, s *store.Store, want state) {
	t.Helper()
	if got := s.World(); !reflect.DeepEqual(plain(got), plain(want.world)) {
		t.Errorf("World %.200v, want %.200v", got, want.world)
	}
	got := s.Events()
	if len(got) != len(want.events) {
		t.Errorf("%d events, want %d", len(got), len(want.events))
	} else if !reflect.DeepEqual(plain(&got), plain(&want.events)) {
		t.Errorf("Events %.300v, want %.300v", got, want.events)
	}
	if got := s.Number(); got != int64(want.number) {
		t.Errorf("Number %d, want %d", got, want.number)
	}
}

// plain makes of a pointer's thing one that shares no memory with it, and whose
// empty lists are nil.
func plain[T any](x *T) *T {
	if x == nil {
		return nil
	}
	c := new(T)
	copyInto(reflect.ValueOf(c).Elem(), reflect.ValueOf(x).Elem())
	return c
}

func copyInto(to, from reflect.Value) {
	switch from.Kind() {
	case reflect.Struct:
		for i := range from.NumField() {
			copyInto(to.Field(i), from.Field(i))
		}
	case reflect.Slice:
		if from.Len() == 0 {
			return
		}
		to.Set(reflect.MakeSlice(from.Type(), from.Len(), from.Len()))
		for i := range from.Len() {
			copyInto(to.Index(i), from.Index(i))
		}
	default:
		to.Set(from)
	}
}

// seen tells what is to be seen of a file system: what is free, what is in its
// root, and what those files hold that can be opened.
func seen(t testing.TB, f *fs.FS) string {
	t.Helper()
	var s strings.Builder
	fmt.Fprintln(&s, fmt.Sprint(f.Free()))
	l, err := f.List("/")
	well(t, err)
	for _, e := range l {
		b, err := content(f, "/"+e.Name)
		fmt.Fprintf(&s, "%v %d bytes of sum %x: %v\n", e, len(b), crc32.ChecksumIEEE(b), err)
	}
	for fd := range 8 {
		n, err := f.Size(fd)
		fmt.Fprintln(&s, fd, n, err)
	}
	return s.String()
}

// content answers the bytes of a file.
func content(f *fs.FS, path string) ([]byte, error) {
	fd, err := f.Open(path)
	if err != nil {
		return nil, err
	}
	b, err := f.Read(fd, 0, math.MaxInt)
	return b, errors.Join(err, f.Close(fd))
}

// lay lets the file at path, which may be there already, hold just b.
func lay(t testing.TB, f *fs.FS, path string, b []byte) {
	t.Helper()
	if err := f.Create(path); err != nil && !errors.Is(err, api.ErrExists) {
		t.Fatal(err)
	}
	fd, err := f.Open(path)
	well(t, err, f.Truncate(fd, 0))
	for at := 0; at < len(b); at += 4096 {
		well(t, f.Write(fd, at, b[at:min(at+4096, len(b))]))
	}
	well(t, f.Close(fd))
}

// tidy checks that a file system on which there is nothing but a store has just
// that store's files, and no block is taken for anything else. A log that holds
// no events behind the snapshot has none.
func tidy(t testing.TB, d *blockdev.Disk, f *fs.FS, s *store.Store) {
	t.Helper()
	snap, err := content(f, "/snap")
	names := "log snap"
	if errors.Is(err, api.ErrNotFound) {
		names, err = "log", nil
	}
	well(t, err)
	log, err := content(f, "/log")
	well(t, err)
	var got []string
	l, err := f.List("/")
	well(t, err)
	for _, e := range l {
		got = append(got, e.Name)
	}
	if strings.Join(got, " ") != names {
		t.Errorf("files %q, want %s", got, names)
	}
	if free, nodes := f.Free(); free != d.Len()-54-1-blocks(len(snap))-blocks(len(log)) || nodes != 30-len(l) {
		t.Errorf("%d blocks and %d nodes are free of %d sectors beside %d and %d bytes", free, nodes, d.Len(), len(snap), len(log))
	}
	if len(s.Events()) == 0 && len(log) > 0 {
		t.Errorf("the log has %d bytes, of no events", len(log))
	}
}

// blocks tells how many blocks a file of n bytes without holes takes.
func blocks(n int) int {
	data := (n + 511) / 512
	switch {
	case data > 8+128:
		return data + 3
	case data > 8:
		return data + 1
	}
	return data
}

// grows tells how many blocks more a file takes that grows so.
func grows(from, to int) int {
	return blocks(to) - blocks(from)
}

// framed makes a record of b.
func framed(t testing.TB, b []byte) []byte {
	t.Helper()
	r, err := journal.Frame(b)
	well(t, err)
	return r
}

// logged makes what the log holds of event number n.
func logged(t testing.TB, n int64, e api.Event) []byte {
	t.Helper()
	return framed(t, append(binary.LittleEndian.AppendUint64(nil, uint64(n)), codec.Event(e)...))
}

// packed makes what the file of a snapshot holds.
func packed(n int64, world []byte) []byte {
	b := append(binary.LittleEndian.AppendUint64(nil, uint64(n)), world...)
	return append(binary.LittleEndian.AppendUint32(nil, crc32.ChecksumIEEE(b)), b...)
}

// everySome answers picks of n writes, one for each of some k.
func everySome(n, k int) []bool {
	picks := make([]bool, n)
	for i := range picks {
		switch {
		case n <= 5:
			picks[i] = k>>i&1 > 0
		case k < 2:
			picks[i] = k > 0
		default:
			picks[i] = (i*i*7+i*k)%11 > k%11
		}
	}
	return picks
}

// kinds tells how many picks everySome has of n writes, at most so many.
func kinds(n, atMost int) int {
	return min(1<<min(n, 20), atMost)
}

var _ interface {
	World() *api.World
	Events() []api.Event
	Number() int64
	Append(e api.Event) error
	Sync() error
	Snapshot(w *api.World) error
} = (*store.Store)(nil)
