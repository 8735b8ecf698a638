package render_test

import (
	"fmt"
	"slices"
	"testing"

	"lychgate/api"
	"lychgate/entity"
	"lychgate/gold"
	"lychgate/worlddb"
)

// text describes tables with rooms of no exit, of one, of some and of all six;
// none of the numbers is its row's place.
const text = `
room 10 gate plain 0 20 30 40 50 60 70
room 20 mart shop 0 0 0 10 0 0 0
room 30 vault bank 0 0 0 0 10 0 0
room 40 cave forge 0 10 0 0 0 0 90
room 50 hut house 50 0 10 0 0 0 0
room 60 court hall 0 0 0 0 0 0 10
room 70 pit plain 0 0 0 0 0 10 0
room 80 cell plain 0 0 0 0 0 0 0
room 90 yard plain 0 0 80 20 0 40 0
item 11 rag none 0 1
item 12 club wield 4 20
item 13 coat body 2 30
item 14 gem none 0 0
item 15 pike wield 9 70
mob 21 rat 10 5 2 150 6
mob 22 ogre 40 60 30 900 90
mob 23 crow 10 1 0 10 0
shop 20 200 11 12 13 14
`

const hash = "0123456789abcdef0123456789abcdef0123456789abcdef0123456789abcdef"

// most is as much as there may be of gold and of points.
const most = 1 << 40

func tables(t testing.TB) *api.Db {
	t.Helper()
	db, err := worlddb.Parse(text)
	if err != nil {
		t.Fatal(err)
	}
	return db
}

// town is a world of these tables: ann and dan are at the gate, where cid stands,
// too, but isn't On; bob is in the cave, eve alone in the cell; gus is in the mart,
// where fay isn't On.
func town() *api.World {
	w := &api.World{
		Now: 100, Next: 64,
		Chars: []api.Char{
			{Name: "ann", Hash: hash, On: true, Room: 10, Hp: 23, Xp: 150, Gold: 100, Bank: 7, Foe: 1},
			{Name: "bob", Hash: hash, On: true, Room: 40, Hp: 20, Gold: 90},
			{Name: "cid", Hash: hash, Room: 10, Hp: 1, Bank: 12},
			{Name: "dan", Hash: hash, On: true, Room: 10, Hp: 70, Xp: 1000, Gold: 5},
			{Name: "eve", Hash: hash, On: true, Room: 80, Hp: 20},
			{Name: "fay", Hash: hash, Room: 20, Hp: 20},
			{Name: "gus", Hash: hash, On: true, Room: 20, Hp: 20},
		},
		Things: []api.Thing{
			{Id: 5, Proto: 12, Place: api.InRoom, Room: 10},
			{Id: 7, Proto: 14, Place: api.Carried, Who: "ann"},
			{Id: 8, Proto: 14, Place: api.InLot},
			{Id: 12, Proto: 11, Place: api.InRoom, Room: 10},
			{Id: 13, Proto: 15, Place: api.Worn, Who: "ann"},
			{Id: 20, Proto: 13, Place: api.Worn, Who: "ann"},
			{Id: 21, Proto: 11, Place: api.InLot},
			{Id: 22, Proto: 12, Place: api.Worn, Who: "bob"},
			{Id: 30, Proto: 12, Place: api.Carried, Who: "ann"},
			{Id: 31, Proto: 12, Place: api.Carried, Who: "cid"},
			{Id: 33, Proto: 14, Place: api.InRoom, Room: 10},
			{Id: 40, Proto: 12, Place: api.InRoom, Room: 40},
			{Id: 41, Proto: 11, Place: api.Carried, Who: "ann"},
			{Id: 42, Proto: 11, Place: api.Carried, Who: "cid"},
		},
		Mobs: []api.Mob{
			{Id: 1, Proto: 23, Room: 10, Hp: 1},
			{Id: 2, Proto: 22, Room: 40, Hp: 60},
			{Id: 9, Proto: 21, Room: 10, Hp: 5},
		},
		Houses: []api.House{{Room: 50, Owner: "ann", Guests: []string{"bob", "cid"}, Chest: 60}},
		Lots: []api.Lot{
			{Id: 25, Thing: 21, Seller: "bob", Min: 5, Bid: 9, Bidder: "ann", Ends: 120},
			{Id: 50, Thing: 8, Seller: "dan", Min: 1, Ends: 101},
		},
		Tills: []api.Till{{Room: 20, Gold: 180}},
	}
	w.Minted = gold.Total(w)
	return w
}

// The sample is a world as the server has them.
func TestTown(t *testing.T) {
	if !entity.May(town(), tables(t)) {
		t.Error("the town is not May")
	}
}

// put adds things, one behind the other, each with a number of its own.
func put(w *api.World, like api.Thing, kinds ...int) {
	for _, k := range kinds {
		like.Id, like.Proto = w.Next, k
		w.Things = append(w.Things, like)
		w.Next++
	}
}

// only is the town's character of that name, alone in a world without anything.
func only(name string) *api.World {
	w := town()
	return &api.World{Next: 1, Chars: []api.Char{w.Chars[entity.Char(w, name)]}}
}

// names are n names that rise, each with a great letter ahead in great.
func names(n int) (small, great []string) {
	for k := range n {
		rest := string([]byte{byte('a' + k/26), byte('z' - k%26)})
		small = append(small, string(rune('a'+k))+rest)
		great = append(great, string(rune('A'+k))+rest)
	}
	return small, great
}

// show writes a value so that no two others are written the same.
func show(x any) string {
	return fmt.Sprintf("%#v", x)
}

// says checks lines, with those to whom they go.
func says(t testing.TB, about string, got []api.Say, want ...api.Say) {
	t.Helper()
	if !slices.Equal(got, want) {
		t.Errorf("%.100q: %.900s, want %.900s", about, show(got), show(want))
	}
}

// tells checks lines that all go to one character.
func tells(t testing.TB, about string, got []api.Say, to string, want ...string) {
	t.Helper()
	var l []api.Say
	for _, s := range want {
		l = append(l, api.Say{To: to, Text: s})
	}
	says(t, about+" to "+to, got, l...)
}
