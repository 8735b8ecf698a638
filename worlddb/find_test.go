package worlddb_test

import (
	"math"
	"testing"

	"lychgate/api"
	"lychgate/worlddb"
)

func hasRoom(t *testing.T, db *api.Db, id int, want api.Room, there bool) {
	t.Helper()
	if r, ok := worlddb.Room(db, id); r != want || ok != there {
		t.Errorf("Room(%.300s, %d): %v, %v, want %v, %v", show(db), id, r, ok, want, there)
	}
}

func hasProto(t *testing.T, db *api.Db, id int, want api.Proto, there bool) {
	t.Helper()
	if p, ok := worlddb.Proto(db, id); p != want || ok != there {
		t.Errorf("Proto(%.300s, %d): %v, %v, want %v, %v", show(db), id, p, ok, want, there)
	}
}

func hasMob(t *testing.T, db *api.Db, id int, want api.MobProto, there bool) {
	t.Helper()
	if m, ok := worlddb.Mob(db, id); m != want || ok != there {
		t.Errorf("Mob(%.300s, %d): %v, %v, want %v, %v", show(db), id, m, ok, want, there)
	}
}

// hasNone checks that a number is in none of the three lists.
func hasNone(t *testing.T, db *api.Db, id int) {
	t.Helper()
	hasRoom(t, db, id, api.Room{}, false)
	hasProto(t, db, id, api.Proto{}, false)
	hasMob(t, db, id, api.MobProto{}, false)
}

// P13.2: each number that is there, and all that are not.
func TestFind(t *testing.T) {
	for _, db := range []*api.Db{smallDb(), leastDb(), greatestDb(), parsed(t, small)} {
		rooms, protos, mobs := map[int]api.Room{}, map[int]api.Proto{}, map[int]api.MobProto{}
		for _, r := range db.Rooms {
			rooms[r.Id] = r
		}
		for _, p := range db.Protos {
			protos[p.Id] = p
		}
		for _, m := range db.Mobs {
			mobs[m.Id] = m
		}
		for id := -3; id < 1100; id++ {
			r, ok := rooms[id]
			hasRoom(t, db, id, r, ok)
			p, ok := protos[id]
			hasProto(t, db, id, p, ok)
			m, ok := mobs[id]
			hasMob(t, db, id, m, ok)
		}
	}
}

// P13.2, P0.1: no tables, empty ones, and numbers that none may have.
func TestFindNone(t *testing.T) {
	for _, db := range []*api.Db{nil, {}, {Rooms: []api.Room{}, Protos: []api.Proto{}, Mobs: []api.MobProto{}}, smallDb(), greatestDb()} {
		for _, id := range []int{0, -1, -10, 5, 1001, 1<<32 + 10, 1<<32 + 7, 1<<32 + 2, 10 - 1<<32, math.MaxInt64, math.MinInt64} {
			hasNone(t, db, id)
		}
	}
	for id := range 50 {
		hasNone(t, nil, id)
		// One list's numbers are not another's.
		hasNone(t, &api.Db{Recipes: []api.Recipe{{Out: id}}, Quests: []api.Quest{{Id: id}}, Shops: []api.Shop{{Room: id}}}, id)
	}
}

// P13.2: of several of one number the first, in tables of any order, with any
// numbers.
func TestFindFirst(t *testing.T) {
	for _, id := range []int{5, 1, 1000, 0, -1, 1001, math.MaxInt64, math.MinInt64} {
		db := &api.Db{
			Rooms:  []api.Room{{Id: 9, Name: "nine"}, {Id: id, Name: "first", Exits: [6]int{1, 2, 3, 4, 5, 6}}, {Id: 2, Name: "two"}, {Id: id, Name: "second"}, {Id: 7, Name: "seven"}},
			Protos: []api.Proto{{Id: 9, Name: "nine"}, {Id: 7, Name: "seven"}, {Id: id, Name: "first", Power: -4}, {Id: id, Name: "second"}, {Id: 2, Name: "two"}},
			Mobs:   []api.MobProto{{Id: id, Name: "first", Gold: -1}, {Id: id, Name: "second"}, {Id: 9, Name: "nine"}, {Id: 7, Name: "seven"}, {Id: 2, Name: "two"}, {Id: id}},
		}
		hasRoom(t, db, id, db.Rooms[1], true)
		hasProto(t, db, id, db.Protos[2], true)
		hasMob(t, db, id, db.Mobs[0], true)
		hasRoom(t, db, 7, db.Rooms[4], true)
		hasProto(t, db, 7, db.Protos[1], true)
		hasMob(t, db, 7, db.Mobs[3], true)
		hasRoom(t, db, 2, db.Rooms[2], true)
		hasProto(t, db, 2, db.Protos[4], true)
		hasMob(t, db, 2, db.Mobs[4], true)
		hasRoom(t, db, 9, db.Rooms[0], true)
		hasProto(t, db, 9, db.Protos[0], true)
		hasMob(t, db, 9, db.Mobs[2], true)
		hasNone(t, db, 8)
	}
}
