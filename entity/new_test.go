package entity_test

import (
	"fmt"
	"math"
	"strings"
	"testing"

	"lychgate/api"
	"lychgate/entity"
	"lychgate/worlddb"
)

// firstTown is what New answers of the sample's tables.
func firstTown() *api.World {
	return &api.World{
		Now: 0, Next: 4, Minted: 235,
		Mobs: []api.Mob{
			{Id: 1, Proto: 21, Room: 10, Hp: 5},
			{Id: 2, Proto: 22, Room: 40, Hp: 60},
			{Id: 3, Proto: 23, Room: 10, Hp: 1},
		},
		Tills: []api.Till{{Room: 20, Gold: 200}, {Room: 70, Gold: 35}},
	}
}

// P16.1: a mobile of each kind, tills as at first, nothing else.
func TestNew(t *testing.T) {
	db := tables(t)
	w := entity.New(db)
	same(t, "New", w, firstTown())
	may(t, "New", w, db)
}

// P16.1: tables with nothing but rooms, with mobiles alone, with shops alone.
func TestNewOfLittle(t *testing.T) {
	news := func(text string, want *api.World) {
		t.Helper()
		db, err := worlddb.Parse(text)
		if err != nil {
			t.Fatal(err)
		}
		w := entity.New(db)
		same(t, text, w, want)
		may(t, text, w, db)
	}
	news("room 1 gate plain 0 0 0 0 0 0 0", &api.World{Next: 1})
	news("room 7 gate plain 0 0 0 0 0 0 0\nmob 5 rat 7 3 0 0 0", &api.World{Next: 2, Mobs: []api.Mob{{Id: 1, Proto: 5, Room: 7, Hp: 3}}})
	news("room 7 gate shop 0 0 0 0 0 0 0\nshop 7 0", &api.World{Next: 1, Tills: []api.Till{{Room: 7}}})
	news("room 7 gate shop 0 0 0 0 0 0 0\nitem 3 gem none 0 5\nshop 7 9 3", &api.World{Next: 1, Minted: 9, Tills: []api.Till{{Room: 7, Gold: 9}}})
}

// P16.1: lists as long, and numbers as great, as there may be.
func TestNewOfMuch(t *testing.T) {
	db, want := &api.Db{}, &api.World{Next: 61, Minted: 60 << 30}
	for k := range 60 {
		db.Rooms = append(db.Rooms, api.Room{Id: 941 + k, Name: "hall", Kind: api.RShop})
		db.Mobs = append(db.Mobs, api.MobProto{Id: 941 + k, Name: "rat", Home: 1000 - k, Hp: 10000})
		db.Shops = append(db.Shops, api.Shop{Room: 941 + k, Till: 1 << 30})
		want.Mobs = append(want.Mobs, api.Mob{Id: int64(1 + k), Proto: 941 + k, Room: 1000 - k, Hp: 10000})
		want.Tills = append(want.Tills, api.Till{Room: 941 + k, Gold: 1 << 30})
	}
	w := entity.New(db)
	same(t, "New", w, want)
	may(t, "New", w, db)
}

// wrongTables are tables that Check does not take, by what is wrong.
func wrongTables(t testing.TB) map[string]*api.Db {
	l := map[string]*api.Db{"nil": nil, "empty": {}}
	add := func(about string, turn func(db *api.Db)) {
		db := tables(t)
		turn(db)
		if worlddb.Check(db) == nil {
			t.Fatalf("%s: Check takes it", about)
		}
		l[about] = db
	}
	add("no rooms", func(db *api.Db) { db.Rooms = nil })
	add("empty rooms", func(db *api.Db) { db.Rooms = []api.Room{} })
	add("a room's name", func(db *api.Db) { db.Rooms[1].Name = "Mart" })
	add("rooms twice", func(db *api.Db) { db.Rooms[1] = db.Rooms[0] })
	add("rooms fall", func(db *api.Db) { db.Rooms[0], db.Rooms[1] = db.Rooms[1], db.Rooms[0] })
	add("a price", func(db *api.Db) { db.Rooms[4].Price = -1 })
	add("an exit", func(db *api.Db) { db.Rooms[4].Exits[2] = 99 })
	add("a kind's name", func(db *api.Db) { db.Protos[0].Name = "" })
	add("a slot", func(db *api.Db) { db.Protos[0].Slot = 3 })
	add("a slot below 0", func(db *api.Db) { db.Protos[0].Slot = -1 })
	add("a home", func(db *api.Db) { db.Mobs[1].Home = 41 })
	add("lives", func(db *api.Db) { db.Mobs[1].Hp = 0 })
	add("a need", func(db *api.Db) { db.Recipes[1].Needs[1] = 99 })
	add("an item", func(db *api.Db) { db.Quests[1].Item = 99 })
	add("a count", func(db *api.Db) { db.Quests[2].Count = 6 })
	add("a shop that is none", func(db *api.Db) { db.Rooms[7].Kind = api.RPlain })
	add("a till", func(db *api.Db) { db.Shops[0].Till = -5 })
	add("a great till", func(db *api.Db) { db.Shops[0].Till = math.MaxInt64 })
	add("goods fall", func(db *api.Db) { db.Shops[0].Items = []int{12, 11} })
	return l
}

// P16.1: tables that Check does not take.
func TestNewOfNone(t *testing.T) {
	for about, db := range wrongTables(t) {
		before := show(db)
		if w := entity.New(db); w != nil {
			t.Errorf("%s: %s", about, show(w))
		}
		same(t, about, db, before)
	}
}

// P16.1: the least room, wherever it stands; none: 0.
func TestStart(t *testing.T) {
	starts := func(want int, ids ...int) {
		t.Helper()
		db := &api.Db{Mobs: []api.MobProto{{Id: 1, Home: 1}}, Shops: []api.Shop{{Room: 1}}}
		for _, id := range ids {
			db.Rooms = append(db.Rooms, api.Room{Id: id, Name: "gate"})
		}
		if got := entity.Start(db); got != want {
			t.Errorf("Start of rooms %v: %d, want %d", ids, got, want)
		}
	}
	starts(10, 10, 20, 30)
	starts(1, 1)
	starts(1000, 1000)
	starts(2, 2, 3)
	starts(7, 30, 7, 20)
	starts(7, 30, 20, 7)
	starts(-4, 3, -4, 5)
	starts(math.MinInt, 3, math.MaxInt, math.MinInt)
	starts(math.MaxInt, math.MaxInt)
	starts(0)
	if got := entity.Start(nil); got != 0 {
		t.Errorf("Start(nil): %d", got)
	}
	if got := entity.Start(tables(t)); got != 10 {
		t.Errorf("Start: %d", got)
	}
}

// P16.1: a copy has all fields of all rows.
func TestCopy(t *testing.T) {
	same(t, "town", entity.Copy(town()), town())
	same(t, "a new world", entity.Copy(firstTown()), firstTown())
	same(t, "empty", entity.Copy(&api.World{}), &api.World{})
	if w := entity.Copy(nil); w != nil {
		t.Errorf("nil: %s", show(w))
	}
	odd := &api.World{
		Now: math.MinInt64, Next: -5, Minted: math.MaxInt64,
		Chars:  []api.Char{{}, {Name: "\xff", Hash: "x", Foe: -1, Done: []int{3, -3, 3}}, {Done: []int{}}},
		Things: []api.Thing{{Place: 99}, {Place: -1, Who: "nobody"}},
		Mobs:   []api.Mob{{Id: -1}},
		Houses: []api.House{{Guests: []string{"", "b", "a"}}, {Guests: []string{}}},
		Lots:   []api.Lot{{Bid: -1}},
		Tills:  []api.Till{{Gold: -1}},
	}
	want := show(odd)
	same(t, "odd", entity.Copy(odd), want)
	same(t, "odd itself", odd, want)
}

// scribble writes into all that hangs on a world, spare room too.
func scribble(w *api.World) {
	w.Now, w.Next, w.Minted = -1, -1, -1
	chars, houses := w.Chars[:cap(w.Chars)], w.Houses[:cap(w.Houses)]
	for i := range chars {
		done := chars[i].Done[:cap(chars[i].Done)]
		for k := range done {
			done[k] = -1
		}
		chars[i] = api.Char{Name: "scribbled"}
	}
	for i := range houses {
		guests := houses[i].Guests[:cap(houses[i].Guests)]
		for k := range guests {
			guests[k] = "scribbled"
		}
		houses[i] = api.House{Room: -1}
	}
	fill(w.Things, api.Thing{Id: -1})
	fill(w.Mobs, api.Mob{Id: -1})
	fill(w.Lots, api.Lot{Id: -1})
	fill(w.Tills, api.Till{Room: -1})
}

// fill writes x everywhere into a list, spare room too.
func fill[T any](l []T, x T) {
	l = l[:cap(l)]
	for i := range l {
		l[i] = x
	}
}

// roomyTown is the town with spare room in each list, a shared one where rows
// have lists.
func roomyTown() *api.World {
	w := town()
	for i := range w.Chars {
		w.Chars[i].Done = roomy(w.Chars[i].Done, 77)
	}
	for i := range w.Houses {
		w.Houses[i].Guests = roomy(w.Houses[i].Guests, "spare")
	}
	w.Chars = roomy(w.Chars, api.Char{Name: "spare"})
	w.Things = roomy(w.Things, api.Thing{Id: 77})
	w.Mobs = roomy(w.Mobs, api.Mob{Id: 77})
	w.Houses = roomy(w.Houses, api.House{Room: 77})
	w.Lots = roomy(w.Lots, api.Lot{Id: 77})
	w.Tills = roomy(w.Tills, api.Till{Room: 77})
	return w
}

// spareOfTown writes what stands in the spare room of each list.
func spareOfTown(w *api.World) string {
	s := show(spareOf(w.Chars)) + show(spareOf(w.Things)) + show(spareOf(w.Mobs)) + show(spareOf(w.Houses)) + show(spareOf(w.Lots)) + show(spareOf(w.Tills))
	for _, c := range w.Chars {
		s += show(spareOf(c.Done))
	}
	for _, h := range w.Houses {
		s += show(spareOf(h.Guests))
	}
	return s
}

// P16.1, P0.3: what is written into the one the other doesn't see, on either
// side, nor does another copy; the spare room stays, too.
func TestCopyIsItsOwn(t *testing.T) {
	w := roomyTown()
	spare := spareOfTown(w)
	one, two := entity.Copy(w), entity.Copy(w)
	scribble(one)
	same(t, "the world", w, town())
	same(t, "its spare room", spareOfTown(w), spare)
	same(t, "another copy", two, town())
	scribble(w)
	same(t, "the copy of a world written to later", two, town())
	one = entity.Copy(two)
	scribble(two)
	same(t, "a copy's copy", one, town())
}

// P16.1, P0.3: each list alone, appended to on both sides.
func TestCopyAppended(t *testing.T) {
	w := roomyTown()
	c := entity.Copy(w)
	w.Chars, c.Chars = append(w.Chars, api.Char{Name: "eve"}), append(c.Chars, api.Char{Name: "fay"})
	w.Things, c.Things = append(w.Things, api.Thing{Id: 90}), append(c.Things, api.Thing{Id: 91})
	w.Mobs, c.Mobs = append(w.Mobs, api.Mob{Id: 90}), append(c.Mobs, api.Mob{Id: 91})
	w.Houses, c.Houses = append(w.Houses, api.House{Room: 90}), append(c.Houses, api.House{Room: 91})
	w.Lots, c.Lots = append(w.Lots, api.Lot{Id: 90}), append(c.Lots, api.Lot{Id: 91})
	w.Tills, c.Tills = append(w.Tills, api.Till{Room: 90}), append(c.Tills, api.Till{Room: 91})
	done, guests := append(w.Chars[0].Done, 90), append(w.Houses[0].Guests, "eve")
	otherDone, otherGuests := append(c.Chars[0].Done, 91), append(c.Houses[0].Guests, "fay")
	got := fmt.Sprint(w.Chars[4].Name, c.Chars[4].Name, w.Things[11].Id, c.Things[11].Id, w.Mobs[3].Id, c.Mobs[3].Id, w.Houses[2].Room, c.Houses[2].Room,
		w.Lots[2].Id, c.Lots[2].Id, w.Tills[2].Room, c.Tills[2].Room, done[2], otherDone[2], guests[2], otherGuests[2])
	if want := "evefay90 91 90 91 90 91 90 91 90 91 90 91evefay"; strings.ReplaceAll(got, " ", "") != strings.ReplaceAll(want, " ", "") {
		t.Errorf("%s", got)
	}
}

// P16.1, P0.3: New shares nothing with the tables or with another new world, and
// changes nothing.
func TestNewIsItsOwn(t *testing.T) {
	db := tables(t)
	db.Mobs, db.Shops = roomy(db.Mobs, api.MobProto{Id: 77}), roomy(db.Shops, api.Shop{Room: 77})
	one, two := entity.New(db), entity.New(db)
	scribble(one)
	same(t, "another world", two, firstTown())
	same(t, "the tables", db, tables(t))
	same(t, "spare room", show(spareOf(db.Mobs))+show(spareOf(db.Shops)), show(spareOf(roomy(db.Mobs, api.MobProto{Id: 77})))+show(spareOf(roomy(db.Shops, api.Shop{Room: 77}))))
	fill(db.Mobs, api.MobProto{Id: 5})
	fill(db.Shops, api.Shop{Room: 5})
	fill(db.Rooms, api.Room{Id: 5})
	same(t, "the world of tables written to later", two, firstTown())
	same(t, "a new one", entity.New(tables(t)), firstTown())
}

// P16.1: 1 and one for each 100; 20, and 5 for each level above 1.
func TestLevel(t *testing.T) {
	for _, c := range []struct{ xp, level, hp int64 }{
		{0, 1, 20}, {1, 1, 20}, {50, 1, 20}, {99, 1, 20},
		{100, 2, 25}, {101, 2, 25}, {199, 2, 25}, {200, 3, 30}, {299, 3, 30}, {300, 4, 35},
		{999, 10, 65}, {1000, 11, 70}, {10000, 101, 520}, {123456, 1235, 6190},
		{1 << 40, 10995116278, 54975581405},
		{math.MaxInt64 - 7, 92233720368547759, 461168601842738810},
		{math.MaxInt64 - 8, 92233720368547758, 461168601842738805},
		{math.MaxInt64 - 107, 92233720368547758, 461168601842738805},
		{math.MaxInt64, 92233720368547759, 461168601842738810},
		{-1, 1, 20}, {-99, 1, 20}, {-100, 1, 20}, {-101, 1, 20}, {-200, 1, 20}, {-1000, 1, 20},
		{math.MinInt64, 1, 20}, {math.MinInt64 + 1, 1, 20},
	} {
		if got := entity.Level(c.xp); got != c.level {
			t.Errorf("Level(%d): %d, want %d", c.xp, got, c.level)
		}
		if got := entity.MaxHp(c.xp); got != c.hp {
			t.Errorf("MaxHp(%d): %d, want %d", c.xp, got, c.hp)
		}
	}
	for level := int64(1); level < 200; level++ {
		for xp := (level - 1) * 100; xp < level*100; xp++ {
			if entity.Level(xp) != level || entity.MaxHp(xp) != 15+5*level {
				t.Errorf("%d: Level %d, MaxHp %d", xp, entity.Level(xp), entity.MaxHp(xp))
			}
		}
	}
}
