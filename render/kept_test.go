package render_test

import (
	"strings"
	"testing"

	"lychgate/api"
	"lychgate/render"
)

// wrongNames are names that no character of the town has.
var wrongNames = []string{"", "zoe", "an", "anna", "Ann", "ANN", " ann", "ann ", "rat", "gate", "rag", "0", "é", "\xff", "\x00", strings.Repeat("a", 100000)}

// P17.1: no line where there is no such character, whatever else there is of that
// name.
func TestNobody(t *testing.T) {
	w, db := town(), tables(t)
	for _, name := range wrongNames {
		put(w, api.Thing{Place: api.Carried, Who: name}, 11)
		put(w, api.Thing{Place: api.Worn, Who: name}, 12)
		says(t, "Room", render.Room(w, db, name))
		says(t, "Pack", render.Pack(w, db, name))
		says(t, "Score", render.Score(w, name))
		says(t, "Who", render.Who(w, name))
		says(t, "Room", render.Room(w, nil, name))
		says(t, "Pack", render.Pack(w, nil, name))
	}
}

// P17.1, P0.1, P0.4: no world, and worlds without characters.
func TestNoWorld(t *testing.T) {
	empty := town()
	empty.Chars = nil
	for _, w := range []*api.World{nil, {}, {Chars: []api.Char{}}, empty} {
		for _, db := range []*api.Db{nil, {}, tables(t)} {
			for _, name := range append(wrongNames, "ann", "bob") {
				says(t, "Room", render.Room(w, db, name))
				says(t, "Pack", render.Pack(w, db, name))
				says(t, "Score", render.Score(w, name))
				says(t, "Who", render.Who(w, name))
				for _, room := range []int{0, 10, -1} {
					says(t, "To", render.To(w, room, name, "x"))
				}
			}
		}
	}
}

// P17.1: lists that don't rise are gone through as they stand; of several of one
// name the first looks, and none of them is another.
func TestOrderThatNoWorldHas(t *testing.T) {
	w := &api.World{
		Chars: []api.Char{
			{Name: "dan", On: true, Room: 80, Xp: 100, Hp: 7},
			{Name: "bob", Room: 40, Gold: 3},
			{Name: "bob", On: true, Room: 80, Gold: 5},
			{Name: "ann", On: true, Room: 80},
			{Name: "dan", On: true, Room: 80},
		},
		Things: []api.Thing{{Id: 9, Proto: 13, Place: api.InRoom, Room: 80}, {Id: 3, Proto: 12, Place: api.Carried, Who: "dan"}, {Id: 3, Proto: 11, Place: api.InRoom, Room: 80}, {Id: 1, Proto: 11, Place: api.Carried, Who: "dan"}},
		Mobs:   []api.Mob{{Id: 9, Proto: 23, Room: 80}, {Id: 2, Proto: 21, Room: 80}},
	}
	db := tables(t)
	tells(t, "Room", render.Room(w, db, "dan"), "dan", "cell", "Exits: none", "A coat lies here.", "A rag lies here.", "A crow is here.", "A rat is here.", "Bob is here.", "Ann is here.")
	tells(t, "Room", render.Room(w, db, "bob"), "bob", "cave", "Exits: north down")
	tells(t, "Pack", render.Pack(w, db, "dan"), "dan", "You carry:", "club", "rag")
	tells(t, "Score", render.Score(w, "dan"), "dan", "Level 2, 100 xp, 7 of 25 hp, 0 gold, 0 in the bank.")
	tells(t, "Score", render.Score(w, "bob"), "bob", "Level 1, 0 xp, 0 of 20 hp, 3 gold, 0 in the bank.")
	tells(t, "Who", render.Who(w, "ann"), "ann", "Here are: Dan Bob Ann Dan")
}

// roomy answers the same list with spare room full of that.
func roomy[T any](l []T, spare T) []T {
	long := append(append([]T{}, l...), spare, spare, spare)
	return long[:len(l)]
}

// spareOf answers what stands in the spare room.
func spareOf[T any](l []T) []T {
	return l[len(l):cap(l)]
}

// roomyTown is the town with spare room behind its lists, full of what looks as if
// it were there.
func roomyTown() *api.World {
	w := town()
	w.Chars = roomy(w.Chars, api.Char{Name: "zoe", On: true, Room: 10})
	w.Things = roomy(w.Things, api.Thing{Proto: 11, Place: api.InRoom, Room: 10, Who: "ann"})
	w.Mobs = roomy(w.Mobs, api.Mob{Proto: 21, Room: 10})
	return w
}

// roomyTables are the tables with spare room behind their lists.
func roomyTables(t testing.TB) *api.Db {
	db := tables(t)
	db.Rooms = roomy(db.Rooms, api.Room{Id: 10, Name: "spare"})
	db.Protos = roomy(db.Protos, api.Proto{Id: 11, Name: "spare"})
	db.Mobs = roomy(db.Mobs, api.MobProto{Id: 21, Name: "spare"})
	return db
}

// P0.3, P0.5: the functions change nothing of what is handed to them, its spare
// room neither, and whoever writes into an answer changes no other one.
func TestKept(t *testing.T) {
	w, db := roomyTown(), roomyTables(t)
	spare := func() string {
		return show([]any{spareOf(w.Chars), spareOf(w.Things), spareOf(w.Mobs), spareOf(db.Rooms), spareOf(db.Protos), spareOf(db.Mobs)})
	}
	before := spare()
	look := func() [][]api.Say {
		return [][]api.Say{
			render.Room(w, db, "ann"), render.Room(w, db, "cid"), render.Pack(w, db, "ann"), render.Pack(w, db, "eve"),
			render.Score(w, "ann"), render.Who(w, "ann"), render.To(w, 10, "", "x"), render.To(w, 10, "ann", "x"),
		}
	}
	first, second := look(), look()
	want := show(first)
	if show(second) != want {
		t.Errorf("%s, then %s", want, show(second))
	}
	for _, l := range second {
		l = l[:cap(l)]
		for i := range l {
			l[i] = api.Say{To: "nobody", Text: "spoilt"}
		}
	}
	if show(first) != want || show(look()) != want {
		t.Errorf("spoilt: %s, %s, want %s", show(first), show(look()), want)
	}
	if show(*w) != show(*town()) || show(*db) != show(*tables(t)) || spare() != before {
		t.Errorf("changed: %s, %s, %s", show(*w), show(*db), spare())
	}
}

// P0.5: what is asked again behind a change tells of the change.
func TestNothingRemembered(t *testing.T) {
	w, db := town(), tables(t)
	tells(t, "Room", render.Room(w, db, "eve"), "eve", "cell", "Exits: none")
	tells(t, "Pack", render.Pack(w, db, "eve"), "eve", "You carry nothing.")
	db.Rooms[7].Name, db.Protos[3].Name = "hole", "stone"
	w.Chars[0].Room, w.Chars[6].On, w.Chars[4].Gold = 80, false, 9
	put(w, api.Thing{Place: api.Carried, Who: "eve"}, 14)
	tells(t, "Room", render.Room(w, db, "eve"), "eve", "hole", "Exits: none", "Ann is here.")
	tells(t, "Pack", render.Pack(w, db, "eve"), "eve", "You carry:", "stone")
	tells(t, "Score", render.Score(w, "eve"), "eve", "Level 1, 0 xp, 20 of 20 hp, 9 gold, 0 in the bank.")
	tells(t, "Who", render.Who(w, "eve"), "eve", "Here are: Ann Bob Dan Eve")
	says(t, "To", render.To(w, 80, "eve", "x"), api.Say{To: "ann", Text: "x"})
}
