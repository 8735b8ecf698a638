package render_test

import (
	"math"
	"slices"
	"testing"

	"lychgate/api"
	"lychgate/entity"
	"lychgate/render"
)

// P17.1: all that is at a place, in its order; only what is there, and not the one
// who looks.
func TestRoom(t *testing.T) {
	w, db := town(), tables(t)
	room := func(name string, want ...string) {
		t.Helper()
		tells(t, "Room", render.Room(w, db, name), name, want...)
	}
	gate := []string{"gate", "Exits: north east south west up down", "A club lies here.", "A rag lies here.", "A gem lies here.", "A crow is here.", "A rat is here."}
	room("ann", append(gate, "Dan is here.")...)
	room("dan", append(gate, "Ann is here.")...)
	// One who isn't On sees all that are, and is seen by none.
	room("cid", append(gate, "Ann is here.", "Dan is here.")...)
	room("bob", "cave", "Exits: north down", "A club lies here.", "A ogre is here.")
	room("eve", "cell", "Exits: none")
	room("fay", "mart", "Exits: south", "Gus is here.")
	room("gus", "mart", "Exits: south")
}

// P17.1: the directions that lead on, each by itself and with others.
func TestRoomExits(t *testing.T) {
	for _, x := range []struct {
		exits [6]int
		want  string
	}{
		{[6]int{}, "Exits: none"},
		{[6]int{80, 0, 0, 0, 0, 0}, "Exits: north"},
		{[6]int{0, 80, 0, 0, 0, 0}, "Exits: east"},
		{[6]int{0, 0, 80, 0, 0, 0}, "Exits: south"},
		{[6]int{0, 0, 0, 80, 0, 0}, "Exits: west"},
		{[6]int{0, 0, 0, 0, 80, 0}, "Exits: up"},
		{[6]int{0, 0, 0, 0, 0, 80}, "Exits: down"},
		{[6]int{10, 0, 0, 0, 0, 10}, "Exits: north down"},
		{[6]int{0, 90, 10, 0, 0, 0}, "Exits: east south"},
		{[6]int{60, 0, 50, 0, 40, 0}, "Exits: north south up"},
		{[6]int{0, 10, 20, 30, 40, 50}, "Exits: east south west up down"},
		{[6]int{80, 80, 80, 80, 80, 80}, "Exits: north east south west up down"},
	} {
		db := tables(t)
		db.Rooms[7].Exits = x.exits
		tells(t, show(x.exits), render.Room(town(), db, "eve"), "eve", "cell", x.want)
	}
}

// P17.1: each room of the tables, whatever its kind.
func TestRoomOfEach(t *testing.T) {
	db := tables(t)
	want := map[int][]string{
		10: {"gate", "Exits: north east south west up down"},
		20: {"mart", "Exits: south"},
		30: {"vault", "Exits: west"},
		40: {"cave", "Exits: north down"},
		50: {"hut", "Exits: east"},
		60: {"court", "Exits: down"},
		70: {"pit", "Exits: up"},
		80: {"cell", "Exits: none"},
		90: {"yard", "Exits: east south up"},
	}
	for _, r := range db.Rooms {
		w := only("bob")
		w.Chars[0].Room = r.Id
		tells(t, show(r.Id), render.Room(w, db, "bob"), "bob", want[r.Id]...)
	}
}

// P17.1: what lies there, by its places in the list, not by kinds or names; none,
// one, several of one kind.
func TestRoomThings(t *testing.T) {
	db := tables(t)
	here := api.Thing{Place: api.InRoom, Room: 80}
	things := func(kinds []int, want ...string) {
		t.Helper()
		w := town()
		put(w, here, kinds...)
		tells(t, show(kinds), render.Room(w, db, "eve"), "eve", append([]string{"cell", "Exits: none"}, want...)...)
	}
	things(nil)
	things([]int{14}, "A gem lies here.")
	things([]int{11, 11}, "A rag lies here.", "A rag lies here.")
	things([]int{15, 13, 11, 13}, "A pike lies here.", "A coat lies here.", "A rag lies here.", "A coat lies here.")
	// What others have, or what is in a lot, isn't there, whatever room stands for it.
	w := town()
	for _, place := range []int{api.Carried, api.Worn, api.InLot, 0, 5, -1} {
		put(w, api.Thing{Place: place, Room: 80, Who: "eve"}, 12)
	}
	tells(t, "elsewhere", render.Room(w, db, "eve"), "eve", "cell", "Exits: none")
}

// P17.1: mobiles there, by their places in the list, whatever their lives.
func TestRoomMobs(t *testing.T) {
	db := tables(t)
	mobs := func(kinds []int, want ...string) {
		t.Helper()
		w := town()
		for _, k := range kinds {
			w.Mobs = append(w.Mobs, api.Mob{Id: w.Next, Proto: k, Room: 80, Hp: 1})
			w.Next++
		}
		tells(t, show(kinds), render.Room(w, db, "eve"), "eve", append([]string{"cell", "Exits: none"}, want...)...)
	}
	mobs(nil)
	mobs([]int{22}, "A ogre is here.")
	mobs([]int{21, 21, 21}, "A rat is here.", "A rat is here.", "A rat is here.")
	mobs([]int{23, 21, 22, 21}, "A crow is here.", "A rat is here.", "A ogre is here.", "A rat is here.")
}

// P17.1: as many things as a room has room for, and as many characters as a world.
func TestRoomFull(t *testing.T) {
	db := tables(t)
	w := entity.New(db)
	small, great := names(24)
	for _, name := range small {
		w.Chars = append(w.Chars, api.Char{Name: name, Hash: hash, On: true, Room: 10, Hp: 20})
	}
	things := []string{"gate", "Exits: north east south west up down"}
	for k := range 30 {
		put(w, api.Thing{Place: api.InRoom, Room: 10}, 11+k*k%5)
		things = append(things, "A "+[]string{"rag", "club", "coat", "gem", "pike"}[k*k%5]+" lies here.")
	}
	things = append(things, "A rat is here.", "A crow is here.")
	if !entity.May(w, db) {
		t.Error("not May")
	}
	for k, name := range small {
		want := slices.Clone(things)
		for _, other := range slices.Delete(slices.Clone(great), k, k+1) {
			want = append(want, other+" is here.")
		}
		tells(t, "Room", render.Room(w, db, name), name, want...)
	}
}

// P17.1, P0.1: a room that there is none of has no name and no exit; who and what
// is there is told.
func TestRoomThatIsNone(t *testing.T) {
	for _, id := range []int{0, 1, 11, 99, 1000, -1, -10, math.MinInt, math.MaxInt} {
		w := town()
		w.Chars[4].Room, w.Chars[6].Room, w.Mobs[1].Room = id, id, id
		put(w, api.Thing{Place: api.InRoom, Room: id}, 14)
		tells(t, show(id), render.Room(w, tables(t), "eve"), "eve", "", "Exits: none", "A gem lies here.", "A ogre is here.", "Gus is here.")
	}
}

// P17.1, P0.1: exits to rooms that there are none of are exits, too, as only 0 is
// none.
func TestRoomExitsToNowhere(t *testing.T) {
	for _, id := range []int{1, 11, 99, -1, math.MinInt, math.MaxInt} {
		db := tables(t)
		db.Rooms[7].Exits = [6]int{0, id, 0, 0, 0, id}
		tells(t, show(id), render.Room(town(), db, "eve"), "eve", "cell", "Exits: east down")
	}
}

// P17.1, P0.1: kinds that there are none of have no name.
func TestRoomKindsThatAreNone(t *testing.T) {
	for _, id := range []int{0, 10, 16, 99, -1, -11, math.MinInt, math.MaxInt} {
		w := town()
		put(w, api.Thing{Place: api.InRoom, Room: 80}, 11, id, 14)
		for _, kind := range []int{id, 21} {
			w.Mobs = append(w.Mobs, api.Mob{Id: w.Next, Proto: kind, Room: 80, Hp: 1})
		}
		tells(t, show(id), render.Room(w, tables(t), "eve"), "eve", "cell", "Exits: none", "A rag lies here.", "A  lies here.", "A gem lies here.", "A  is here.", "A rat is here.")
	}
	// A thing's kind is none of a mobile, and the other way round.
	w := town()
	put(w, api.Thing{Place: api.InRoom, Room: 80}, 21)
	w.Mobs = append(w.Mobs, api.Mob{Id: w.Next, Proto: 11, Room: 80, Hp: 1})
	tells(t, "kinds of others", render.Room(w, tables(t), "eve"), "eve", "cell", "Exits: none", "A  lies here.", "A  is here.")
}

// P17.1, P0.1, P0.4: no tables, or empty ones.
func TestRoomWithoutTables(t *testing.T) {
	for _, db := range []*api.Db{nil, {}, {Rooms: []api.Room{}, Protos: []api.Proto{}, Mobs: []api.MobProto{}}} {
		tells(t, "Room", render.Room(town(), db, "eve"), "eve", "", "Exits: none")
		tells(t, "Room", render.Room(town(), db, "bob"), "bob", "", "Exits: none", "A  lies here.", "A  is here.")
	}
	// Names as they stand in tables that Check does not take, kinds with no great letter.
	db := &api.Db{Rooms: []api.Room{{Id: 40, Name: "\xff", Exits: [6]int{5: 40}}}, Protos: []api.Proto{{Id: 12, Name: "éa"}}, Mobs: []api.MobProto{{Id: 22, Name: "a b"}}}
	tells(t, "Room", render.Room(town(), db, "bob"), "bob", "\xff", "Exits: down", "A éa lies here.", "A a b is here.")
}

// P17.1: in a room with nobody and nothing else, in a world with nothing else.
func TestRoomAlone(t *testing.T) {
	db := tables(t)
	tells(t, "Room", render.Room(only("ann"), db, "ann"), "ann", "gate", "Exits: north east south west up down")
	w := only("cid")
	w.Things, w.Mobs = []api.Thing{}, []api.Mob{}
	tells(t, "Room", render.Room(w, db, "cid"), "cid", "gate", "Exits: north east south west up down")
}
