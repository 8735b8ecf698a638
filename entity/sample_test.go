package entity_test

import (
	"fmt"
	"strings"
	"testing"

	"lychgate/api"
	"lychgate/entity"
	"lychgate/gold"
	"lychgate/worlddb"
)

// text describes tables with several rows in each list; none of the numbers is
// its row's place.
const text = `
room 10 gate plain 0 20 30 0 0 0 40
room 20 mart shop 0 0 0 10 0 0 0
room 30 vault bank 0 0 50 0 10 0 0
room 40 cave forge 0 0 0 0 0 10 60
room 50 hut house 50 0 0 0 30 0 0
room 55 barn house 70 0 0 0 0 0 0
room 60 court hall 0 0 0 0 0 40 0
room 70 stall shop 0 0 0 0 0 0 0
item 11 rag none 0 1
item 12 club wield 4 20
item 13 coat body 2 30
item 14 gem none 0 0
item 15 pike wield 9 70
mob 21 rat 10 5 2 150 6
mob 22 ogre 40 60 30 900 90
mob 23 crow 10 1 0 10 0
recipe 13 11 11
recipe 15 11 12
quest 31 11 2 50 14
quest 32 14 1 7 0
quest 33 12 5 0 15
shop 20 200 11 12 13 14
shop 70 35 15
`

const hash = "0123456789abcdef0123456789abcdef0123456789abcdef0123456789abcdef"

func tables(t testing.TB) *api.Db {
	t.Helper()
	db, err := worlddb.Parse(text)
	if err != nil {
		t.Fatal(err)
	}
	return db
}

// town is a world of these tables with something in each of its lists: ann
// fights, bob is On elsewhere, cid is not On, dan is On beside ann.
func town() *api.World {
	w := &api.World{
		Now: 100, Next: 64,
		Chars: []api.Char{
			{Name: "ann", Hash: hash, On: true, Room: 10, Hp: 23, Xp: 150, Gold: 100, Bank: 7, Foe: 1, Done: []int{31, 33}},
			{Name: "bob", Hash: hash, On: true, Room: 40, Hp: 20, Xp: 0, Gold: 90},
			{Name: "cid", Hash: hash, Room: 10, Hp: 1, Gold: 0, Bank: 12, Done: []int{32}},
			{Name: "dan", Hash: hash, On: true, Room: 10, Hp: 70, Xp: 1000, Gold: 5},
		},
		Things: []api.Thing{
			{Id: 5, Proto: 11, Place: api.InRoom, Room: 10},
			{Id: 7, Proto: 12, Place: api.Carried, Who: "ann"},
			{Id: 8, Proto: 14, Place: api.InLot},
			{Id: 12, Proto: 11, Place: api.InRoom, Room: 10},
			{Id: 13, Proto: 15, Place: api.Worn, Who: "ann"},
			{Id: 20, Proto: 13, Place: api.Worn, Who: "ann"},
			{Id: 21, Proto: 11, Place: api.InLot},
			{Id: 22, Proto: 12, Place: api.Worn, Who: "bob"},
			{Id: 30, Proto: 12, Place: api.Carried, Who: "ann"},
			{Id: 31, Proto: 12, Place: api.Carried, Who: "cid"},
			{Id: 40, Proto: 12, Place: api.InRoom, Room: 40},
		},
		Mobs: []api.Mob{
			{Id: 1, Proto: 21, Room: 10, Hp: 4},
			{Id: 2, Proto: 22, Room: 40, Hp: 60},
			{Id: 9, Proto: 21, Room: 10, Hp: 5},
		},
		Houses: []api.House{
			{Room: 50, Owner: "ann", Guests: []string{"bob", "cid"}, Chest: 60},
			{Room: 55, Owner: "cid"},
		},
		Lots: []api.Lot{
			{Id: 25, Thing: 21, Seller: "bob", Min: 5, Bid: 9, Bidder: "ann", Ends: 120},
			{Id: 50, Thing: 8, Seller: "dan", Min: 1, Ends: 101},
		},
		Tills: []api.Till{{Room: 20, Gold: 180}, {Room: 70, Gold: 0}},
	}
	mint(w)
	return w
}

// mint sets right what a changed sum of gold put wrong.
func mint(w *api.World) {
	w.Minted = gold.Total(w)
}

// show writes a value so that no two others are written the same, but for empty
// lists and nil ones.
func show(x any) string {
	return strings.ReplaceAll(fmt.Sprintf("%+v", x), "&", "")
}

func same(t testing.TB, about string, got, want any) {
	t.Helper()
	if show(got) != show(want) {
		t.Errorf("%s: %.900s, want %.900s", about, show(got), show(want))
	}
}

func may(t testing.TB, about string, w *api.World, db *api.Db) {
	t.Helper()
	if !entity.May(w, db) {
		t.Errorf("%s: not May: %.900s", about, show(w))
	}
}

func mayNot(t testing.TB, about string, w *api.World, db *api.Db) {
	t.Helper()
	if entity.May(w, db) {
		t.Errorf("%s: May: %.900s", about, show(w))
	}
}

// roomy answers the same list with spare room full of that.
func roomy[T any](l []T, spare T) []T {
	long := append(append([]T{}, l...), spare, spare, spare)
	return long[:len(l)]
}

// spareOf answers what stands in the spare room.
func spareOf[T any](l []T) []T {
	return l[len(l):cap(l)]
}
