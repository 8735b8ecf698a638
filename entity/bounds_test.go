package entity_test

import (
	"slices"
	"testing"

	"lychgate/api"
	"lychgate/entity"
)

// names are n names that rise, with room for others ahead and behind.
func names(n int) []string {
	var l []string
	for k := range n {
		l = append(l, "m"+string([]byte{byte('a' + k/26), byte('a' + k%26)}))
	}
	return l
}

// crowd is a new world with that many characters, one behind the other On and
// not On.
func crowd(db *api.Db, n int) *api.World {
	w := entity.New(db)
	for k, name := range names(n) {
		w.Chars = append(w.Chars, api.Char{Name: name, Hash: hash, On: k%2 == 0, Room: 10, Hp: 20})
	}
	return w
}

// put adds things, one behind the other, each with a number of its own.
func put(w *api.World, n int, t api.Thing) {
	for range n {
		t.Id = w.Next
		w.Things = append(w.Things, t)
		w.Next++
	}
}

// bounded asks May of a world that may be, or that is one beyond a bound.
func bounded(t *testing.T, about string, w *api.World, db *api.Db, want bool) {
	t.Helper()
	if got := entity.May(w, db); got != want {
		t.Errorf("%s: %v", about, got)
	}
}

// P16.2: 24 characters, wherever they are.
func TestMayMostChars(t *testing.T) {
	db := tables(t)
	for _, n := range []int{0, 1, 2, 23, 24, 25, 26, 100} {
		bounded(t, show(n), crowd(db, n), db, n <= 24)
	}
}

// P16.2: 200 things, in whatever places they are.
func TestMayMostThings(t *testing.T) {
	db := tables(t)
	for _, n := range []int{0, 1, 199, 200, 201, 202, 400} {
		w := crowd(db, 0)
		rooms := []int{10, 20, 30, 40, 50, 55, 60, 70}
		for k := range n {
			put(w, 1, api.Thing{Proto: 11, Place: api.InRoom, Room: rooms[k%8]})
		}
		bounded(t, "in rooms", w, db, n <= 200)
		w = crowd(db, 24)
		for k := range n {
			if who := names(24)[k%24]; k < 24*9 {
				put(w, 1, api.Thing{Proto: 11, Place: api.Carried, Who: who})
			} else {
				put(w, 1, api.Thing{Proto: 11, Place: api.InRoom, Room: rooms[k%8]})
			}
		}
		bounded(t, "with characters", w, db, n <= 200)
	}
}

// P16.2: 10 lots, with their things.
func TestMayMostLots(t *testing.T) {
	db := tables(t)
	for _, n := range []int{0, 1, 9, 10, 11, 12, 50} {
		w := crowd(db, 2)
		for range n {
			put(w, 1, api.Thing{Proto: 11, Place: api.InLot})
			w.Lots = append(w.Lots, api.Lot{Id: w.Next, Thing: w.Next - 1, Seller: names(1)[0], Min: 1, Ends: 20})
			w.Next++
		}
		bounded(t, show(n), w, db, n <= 10)
	}
}

// P16.2: 10 things with a character, worn and carried together; whether it is On
// or not; what lies, is in a lot, or is with others does not count.
func TestMayMostCarried(t *testing.T) {
	db := tables(t)
	for _, who := range []string{"ann", "bob", "cid", "dan"} {
		for worn := range 3 {
			for carried := range 14 {
				w := town()
				w.Things = slices.DeleteFunc(w.Things, func(t api.Thing) bool { return t.Who == who })
				for k := range worn {
					put(w, 1, api.Thing{Proto: []int{15, 13}[k], Place: api.Worn, Who: who})
				}
				put(w, carried, api.Thing{Proto: 11, Place: api.Carried, Who: who})
				bounded(t, show([]any{who, worn, carried}), w, db, worn+carried <= 10)
			}
		}
	}
	w := town()
	put(w, 7, api.Thing{Proto: 11, Place: api.Carried, Who: "bob"})
	put(w, 20, api.Thing{Proto: 11, Place: api.InRoom, Room: 10})
	bounded(t, "others have things, too", w, db, true)
}

// P16.2: 30 things in a room, of each room; what is with those who are there does
// not count.
func TestMayMostHere(t *testing.T) {
	db := tables(t)
	for _, r := range db.Rooms {
		for _, n := range []int{0, 1, 29, 30, 31, 32, 60} {
			w := crowd(db, 2)
			put(w, n, api.Thing{Proto: 11, Place: api.InRoom, Room: r.Id})
			bounded(t, show([]int{r.Id, n}), w, db, n <= 30)
		}
	}
	w := crowd(db, 2)
	for _, r := range db.Rooms[:6] {
		put(w, 30, api.Thing{Proto: 11, Place: api.InRoom, Room: r.Id})
	}
	put(w, 10, api.Thing{Proto: 11, Place: api.Carried, Who: names(1)[0]})
	put(w, 10, api.Thing{Proto: 11, Place: api.Carried, Who: names(2)[1]})
	bounded(t, "several full rooms", w, db, true)
}

// P16.2: mobiles have no bound of their own, nor has a room one for them: several
// of one kind may be in one room.
func TestMayManyMobs(t *testing.T) {
	db := tables(t)
	w := entity.New(db)
	for range 100000 {
		w.Mobs = append(w.Mobs, api.Mob{Id: w.Next, Proto: 21, Room: 10, Hp: 5})
		w.Next++
	}
	bounded(t, "many rats", w, db, true)
	w.Mobs[60000].Id--
	bounded(t, "two of them are one", w, db, false)
}

// P16.2, P0.1: all at its bound together.
func TestMayMostOfAll(t *testing.T) {
	db := tables(t)
	w := crowd(db, 24)
	w.Now, w.Next = 1<<50-1, 1<<50-210
	for range 10 {
		put(w, 1, api.Thing{Proto: 11, Place: api.InLot})
		w.Lots = append(w.Lots, api.Lot{Id: w.Next, Thing: w.Next - 1, Seller: names(1)[0], Min: most, Bid: most, Bidder: names(2)[1], Ends: 1 << 50})
		w.Next++
	}
	for k := range 190 {
		put(w, 1, api.Thing{Proto: 11, Place: api.InRoom, Room: db.Rooms[k%7].Id})
	}
	w.Houses = []api.House{{Room: 50, Owner: "maa", Guests: names(24)[1:], Chest: most}, {Room: 55, Owner: "max", Guests: names(23), Chest: most}}
	for k := range w.Chars {
		c := &w.Chars[k]
		c.Gold, c.Bank, c.Xp, c.Hp, c.Done = most, most, most, entity.MaxHp(most), []int{31, 32, 33}
		if c.On {
			c.Foe = 1
		}
	}
	w.Tills[0].Gold, w.Tills[1].Gold = most, most
	mint(w)
	if w.Next != 1<<50 || len(w.Things) != 200 || w.Minted != 62*most {
		t.Fatalf("%d, %d, %d", w.Next, len(w.Things), w.Minted)
	}
	bounded(t, "all of it", w, db, true)
	w.Houses[1].Guests = names(24)
	bounded(t, "but one", w, db, false)
}

// P0.1: long lists that are none.
func TestMayLong(t *testing.T) {
	db := tables(t)
	const n = 300000
	long := func(about string, turn func(w *api.World)) {
		w := town()
		turn(w)
		mayNot(t, about, w, db)
	}
	long("characters", func(w *api.World) { w.Chars = make([]api.Char, n) })
	long("things", func(w *api.World) { w.Things = make([]api.Thing, n) })
	long("mobiles", func(w *api.World) { w.Mobs = make([]api.Mob, n) })
	long("houses", func(w *api.World) { w.Houses = make([]api.House, n) })
	long("lots", func(w *api.World) { w.Lots = make([]api.Lot, n) })
	long("tills", func(w *api.World) { w.Tills = make([]api.Till, n) })
	long("done", func(w *api.World) { w.Chars[0].Done = make([]int, n) })
	long("guests", func(w *api.World) { w.Houses[0].Guests = make([]string, n) })
	long("rising houses", func(w *api.World) {
		for k := range n {
			w.Houses = append(w.Houses, api.House{Room: 56 + k, Owner: "ann"})
		}
	})
	long("rising quests", func(w *api.World) {
		for k := range n {
			w.Chars[0].Done = append(w.Chars[0].Done, 34+k)
		}
	})
}
