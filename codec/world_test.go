package codec_test

import (
	"math"
	"reflect"
	"slices"
	"strconv"
	"testing"

	"lychgate/api"
	"lychgate/codec"
)

func TestWorlds(t *testing.T) {
	for _, w := range worlds() {
		goesAndComes(t, w)
	}
}

// TestWorldsAreToldApart takes worlds of all kinds, each against each.
func TestWorldsAreToldApart(t *testing.T) {
	all := worlds()
	for i, v := range all {
		for _, w := range all[:i] {
			differ(t, v, w, codec.World(v), codec.World(w))
		}
	}
}

// TestEachFieldOfAWorld changes each field of each row alone. Two such worlds
// have the same bytes just if they are the same.
func TestEachFieldOfAWorld(t *testing.T) {
	for _, w := range worlds() {
		was := codec.World(w)
		seen := map[string]*api.World{string(was): w}
		all := changes(w)
		for _, c := range all {
			b := goesAndComes(t, c)
			differ(t, c, w, b, was)
			if other, ok := seen[string(b)]; ok && !same(other, c) {
				t.Errorf("%.200v and %.200v have the same bytes", *other, *c)
			}
			seen[string(b)] = c
		}
		if len(all) < 30 {
			t.Errorf("only %d changes of %.200v", len(all), *w)
		}
	}
}

// TestChangesReachAllFields holds the changes of TestEachFieldOfAWorld against
// the fields that there are.
func TestChangesReachAllFields(t *testing.T) {
	got := make(map[string]int)
	for _, c := range changes(town()) {
		for _, name := range otherFields(reflect.ValueOf(*town()), reflect.ValueOf(*c), "") {
			got[name]++
		}
	}
	for _, x := range []any{api.World{}, api.Char{}, api.Thing{}, api.Mob{}, api.House{}, api.Lot{}, api.Till{}} {
		kind := reflect.TypeOf(x)
		for i := range kind.NumField() {
			if name := kind.Name() + "." + kind.Field(i).Name; got[name] == 0 {
				t.Errorf("no change reaches %s", name)
			}
		}
	}
}

// otherFields names the fields that aren't the same, below fields that name them.
func otherFields(a, b reflect.Value, name string) []string {
	if reflect.DeepEqual(a.Interface(), b.Interface()) {
		return nil
	}
	var l []string
	if name != "" {
		l = append(l, name)
	}
	switch a.Kind() {
	case reflect.Struct:
		for i := range a.NumField() {
			l = append(l, otherFields(a.Field(i), b.Field(i), a.Type().Name()+"."+a.Type().Field(i).Name)...)
		}
	case reflect.Slice:
		for i := range min(a.Len(), b.Len()) {
			l = append(l, otherFields(a.Index(i), b.Index(i), "")...)
		}
	}
	return l
}

func TestNilWorld(t *testing.T) {
	if b := codec.World(nil); len(b) != 0 {
		t.Errorf("World(nil) is %q", b)
	}
	if !codec.EqWorld(nil, nil) {
		t.Error("EqWorld(nil, nil) is false")
	}
	for _, w := range worlds() {
		if codec.EqWorld(w, nil) || codec.EqWorld(nil, w) {
			t.Errorf("EqWorld of %.200v and nil is true", *w)
		}
		if len(codec.World(w)) == 0 {
			t.Errorf("World(%.200v) is empty", *w)
		}
	}
}

// TestEmptyLists: no list and an empty one are the same, with room or without.
func TestEmptyLists(t *testing.T) {
	want := codec.World(&api.World{})
	room := &api.World{
		Chars: make([]api.Char, 0, 3), Things: make([]api.Thing, 0, 3), Mobs: make([]api.Mob, 0, 3),
		Houses: make([]api.House, 0, 3), Lots: make([]api.Lot, 0, 3), Tills: make([]api.Till, 0, 3),
	}
	none := &api.World{
		Chars: []api.Char{}, Things: []api.Thing{}, Mobs: []api.Mob{}, Houses: []api.House{}, Lots: []api.Lot{}, Tills: []api.Till{},
	}
	for _, w := range []*api.World{none, room} {
		if b := goesAndComes(t, w); string(b) != string(want) || !codec.EqWorld(w, &api.World{}) || !codec.EqWorld(&api.World{}, w) {
			t.Errorf("a world of empty lists is another than one of none: %q, %q", b, want)
		}
	}
	inner := &api.World{Chars: []api.Char{{Done: []int{}}}, Houses: []api.House{{Guests: []string{}}}}
	bare := &api.World{Chars: []api.Char{{}}, Houses: []api.House{{}}}
	if b := goesAndComes(t, inner); string(b) != string(codec.World(bare)) || !codec.EqWorld(inner, bare) || !codec.EqWorld(bare, inner) {
		t.Errorf("rows of empty lists are others than rows of none: %q", b)
	}
}

// TestFieldsHoldAll puts each number and text into each field.
func TestFieldsHoldAll(t *testing.T) {
	w := town()
	visit(reflect.ValueOf(w).Elem(), func(path []int) {
		v := at(reflect.ValueOf(w).Elem(), path)
		was := reflect.ValueOf(v.Interface())
		switch v.Kind() {
		case reflect.String:
			for _, s := range texts() {
				v.SetString(s)
				goesAndComes(t, w)
			}
		case reflect.Int, reflect.Int64:
			for _, n := range []int64{math.MinInt64, math.MinInt32, -125, -124, -1, 0, 123, 124, math.MaxUint32, math.MaxInt64} {
				v.SetInt(n)
				goesAndComes(t, w)
			}
		}
		v.Set(was)
	}, nil)
}

// TestNumbers has each number in a field of each of the two kinds; all their
// bytes are told apart.
func TestNumbers(t *testing.T) {
	seen := make(map[string]int64)
	for _, n := range numbers() {
		b := goesAndComes(t, &api.World{Now: n, Tills: []api.Till{{Room: int(n)}}})
		if other, ok := seen[string(b)]; ok && other != n {
			t.Errorf("%d and %d have the same bytes", other, n)
		}
		seen[string(b)] = n
	}
}

// TestManyRows has lists of many rows, with many guests and quests too.
func TestManyRows(t *testing.T) {
	for _, n := range []int{1, 2, 126, 127, 128, 129, 247, 248, 255, 256, 257, 5000, 70000} {
		w := &api.World{Chars: []api.Char{{Name: "ann"}, {}}, Houses: []api.House{{Owner: "ann"}, {}}}
		for i := range n {
			w.Chars[0].Done = append(w.Chars[0].Done, i*i-i)
			w.Houses[0].Guests = append(w.Houses[0].Guests, strconv.Itoa(i))
			w.Things = append(w.Things, api.Thing{Id: int64(i), Proto: i % 50, Who: "ann"})
			w.Mobs = append(w.Mobs, api.Mob{Id: int64(-i)})
			w.Lots = append(w.Lots, api.Lot{Seller: strconv.Itoa(i)})
			w.Tills = append(w.Tills, api.Till{Room: i})
		}
		was := goesAndComes(t, w)
		w.Houses = append(w.Houses, slices.Repeat([]api.House{{}}, n)...)
		w.Chars = append(w.Chars, slices.Repeat([]api.Char{{On: true}}, n)...)
		differ(t, w, &api.World{}, goesAndComes(t, w), was)
	}
}

// TestBorders moves bytes and rows over a border into what stands beside.
func TestBorders(t *testing.T) {
	all := []*api.World{
		{Chars: []api.Char{{Name: "ab", Hash: "c"}}},
		{Chars: []api.Char{{Name: "a", Hash: "bc"}}},
		{Chars: []api.Char{{Name: "abc"}}},
		{Chars: []api.Char{{Hash: "abc"}}},
		{Chars: []api.Char{{Name: "a"}, {Name: "b"}}},
		{Chars: []api.Char{{Name: "b"}, {Name: "a"}}},
		{Chars: []api.Char{{Done: []int{1, 2}}, {}}},
		{Chars: []api.Char{{Done: []int{1}}, {Done: []int{2}}}},
		{Chars: []api.Char{{}, {Done: []int{1, 2}}}},
		{Chars: []api.Char{{}, {Done: []int{2, 1}}}},
		{Houses: []api.House{{Owner: "a", Guests: []string{"b", "c"}}}},
		{Houses: []api.House{{Owner: "a", Guests: []string{"bc"}}}},
		{Houses: []api.House{{Owner: "a", Guests: []string{"bc", ""}}}},
		{Houses: []api.House{{Owner: "a", Guests: []string{"", "bc"}}}},
		{Houses: []api.House{{Owner: "a", Guests: []string{"c", "b"}}}},
		{Houses: []api.House{{Owner: "ab", Guests: []string{"c"}}}},
		{Houses: []api.House{{Owner: "abc"}}},
		{Lots: []api.Lot{{Seller: "ab", Bidder: "c"}}},
		{Lots: []api.Lot{{Seller: "a", Bidder: "bc"}}},
		{Things: []api.Thing{{Who: "ann"}, {}}},
		{Things: []api.Thing{{}, {Who: "ann"}}},
		{Mobs: []api.Mob{{Id: 1, Proto: 2}}},
		{Tills: []api.Till{{Room: 1, Gold: 2}}},
		{Now: 1, Next: 2}, {Next: 1, Minted: 2}, {Now: 2, Next: 1}, {Now: 1, Minted: 2}, {Now: 12},
	}
	for i, v := range all {
		b := goesAndComes(t, v)
		for _, w := range all[:i] {
			differ(t, v, w, b, codec.World(w))
		}
	}
}

func TestWorldsByDice(t *testing.T) {
	d := newDicey(1)
	var all []*api.World
	var text [][]byte
	for range 3000 {
		w := d.world(d.IntN(4))
		b := goesAndComes(t, w)
		for i, v := range all {
			if is := same(v, w); is != codec.EqWorld(v, w) || is != (string(text[i]) == string(b)) {
				t.Errorf("%.200v and %.200v: same %v", *v, *w, is)
			}
		}
		if len(all) < 40 {
			all, text = append(all, w), append(text, b)
		}
	}
}
