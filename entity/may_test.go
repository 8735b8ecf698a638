package entity_test

import (
	"math"
	"slices"
	"strings"
	"testing"

	"lychgate/api"
	"lychgate/entity"
)

const most = 1 << 40

// turned is a change of the town, and what it is about.
type turned struct {
	about string
	turn  func(w *api.World)
}

// tryAll turns the town in each of these ways, one by one, and asks May of it.
// Where gold changes, mint makes it right again: only what the change is about
// is broken.
func tryAll(t *testing.T, want bool, l []turned) {
	t.Helper()
	db := tables(t)
	for _, c := range l {
		w := town()
		c.turn(w)
		before := show(w)
		if got := entity.May(w, db); got != want {
			t.Errorf("%s: %v: %.900s", c.about, got, show(w))
		}
		same(t, c.about+": the world behind", w, before)
	}
	same(t, "the tables behind", db, tables(t))
}

// P16.2: worlds that are of these tables.
func TestMay(t *testing.T) {
	db := tables(t)
	may(t, "town", town(), db)
	may(t, "new", firstTown(), db)
	may(t, "a copy", entity.Copy(town()), db)
	bare := &api.World{Next: 1, Tills: []api.Till{{Room: 20}, {Room: 70}}}
	may(t, "nobody and nothing", bare, db)
	bare.Chars, bare.Things, bare.Mobs, bare.Houses, bare.Lots = []api.Char{}, []api.Thing{}, []api.Mob{}, []api.House{}, []api.Lot{}
	may(t, "empty lists", bare, db)
	little := &api.Db{Rooms: []api.Room{{Id: 3, Name: "gate"}}}
	may(t, "nothing at all", &api.World{Next: 1}, little)
}

// P16.2: no world, no tables, tables that Check does not take.
func TestMayOfNone(t *testing.T) {
	db := tables(t)
	mayNot(t, "no world", nil, db)
	mayNot(t, "neither", nil, nil)
	mayNot(t, "no tables", town(), nil)
	mayNot(t, "no tables, a new world", firstTown(), nil)
	mayNot(t, "no tables, an empty world", &api.World{Next: 1}, nil)
	mayNot(t, "a world of nothing", &api.World{}, db)
	for about, db := range wrongTables(t) {
		before := show(db)
		mayNot(t, about, town(), db)
		mayNot(t, about, firstTown(), db)
		mayNot(t, about, &api.World{Next: 1}, db)
		same(t, about, db, before)
	}
}

// P16.2: lists rise, by what they rise.
func TestMayRises(t *testing.T) {
	tryAll(t, false, []turned{
		{"characters fall", func(w *api.World) { w.Chars[1], w.Chars[2] = w.Chars[2], w.Chars[1] }},
		{"characters fall at the end", func(w *api.World) { w.Chars[2], w.Chars[3] = w.Chars[3], w.Chars[2] }},
		{"a character twice", func(w *api.World) { w.Chars = slices.Insert(w.Chars, 1, w.Chars[1]); mint(w) }},
		{"things fall", func(w *api.World) { w.Things[0], w.Things[1] = w.Things[1], w.Things[0] }},
		{"things fall at the end", func(w *api.World) { w.Things[9], w.Things[10] = w.Things[10], w.Things[9] }},
		{"a thing twice", func(w *api.World) { w.Things = slices.Insert(w.Things, 3, w.Things[3]) }},
		{"mobiles fall", func(w *api.World) { w.Mobs[0], w.Mobs[1] = w.Mobs[1], w.Mobs[0] }},
		{"a mobile twice", func(w *api.World) { w.Mobs = append(w.Mobs, w.Mobs[2]) }},
		{"houses fall", func(w *api.World) { w.Houses[0], w.Houses[1] = w.Houses[1], w.Houses[0] }},
		{"a house twice", func(w *api.World) { w.Houses = append(w.Houses, w.Houses[1]) }},
		{"lots fall", func(w *api.World) { w.Lots[0], w.Lots[1] = w.Lots[1], w.Lots[0] }},
		{"tills fall", func(w *api.World) { w.Tills[0], w.Tills[1] = w.Tills[1], w.Tills[0] }},
		{"a till twice", func(w *api.World) { w.Tills = append(w.Tills, w.Tills[1]) }},
		{"the first till twice", func(w *api.World) { w.Tills[1] = w.Tills[0]; mint(w) }},
	})
	tryAll(t, true, []turned{
		{"names of which one begins with the other", func(w *api.World) {
			w.Chars[1].Name = "anna"
			w.Houses[0].Guests[0] = "anna"
			w.Things[7].Who = "anna"
			w.Lots[0].Seller = "anna"
		}},
	})
}

// P16.2: numbers are above 0 and below Next, all apart.
func TestMayNumbers(t *testing.T) {
	tryAll(t, false, []turned{
		{"a thing of 0", func(w *api.World) { w.Things[0].Id = 0 }},
		{"a thing below 0", func(w *api.World) { w.Things[0].Id = -5 }},
		{"the least thing", func(w *api.World) { w.Things[0].Id = math.MinInt64 }},
		{"a thing of Next", func(w *api.World) { w.Things[10].Id = 64 }},
		{"a thing beyond Next", func(w *api.World) { w.Things[10].Id = 65 }},
		{"the greatest thing", func(w *api.World) { w.Things[10].Id = math.MaxInt64 }},
		{"a mobile of 0", func(w *api.World) { w.Mobs[1].Id, w.Mobs[0].Id, w.Chars[0].Foe = 1, 0, 0 }},
		{"a mobile below 0", func(w *api.World) { w.Mobs[0].Id, w.Chars[0].Foe = -1, 0 }},
		{"a mobile below 0 that one fights", func(w *api.World) { w.Mobs[0].Id, w.Chars[0].Foe = -1, -1 }},
		{"a mobile of Next", func(w *api.World) { w.Mobs[2].Id = 64 }},
		{"a mobile beyond Next", func(w *api.World) { w.Mobs[2].Id = 1000 }},
		{"a lot of 0", func(w *api.World) { w.Lots[0].Id = 0 }},
		{"a lot below 0", func(w *api.World) { w.Lots[0].Id = -1 }},
		{"a lot of Next", func(w *api.World) { w.Lots[1].Id = 64 }},
		{"a lot beyond Next", func(w *api.World) { w.Lots[1].Id = 66 }},
		{"Next is the greatest thing", func(w *api.World) { w.Lots[1].Id, w.Next = 28, 40 }},
		{"Next is the greatest lot", func(w *api.World) { w.Next = 50 }},
		{"Next is far below", func(w *api.World) { w.Next = 1 }},
		{"a thing is as a mobile", func(w *api.World) { w.Things[0].Id = 2 }},
		{"a mobile is as a thing", func(w *api.World) { w.Mobs[2].Id = 31 }},
		{"a thing is as a lot", func(w *api.World) { w.Things[10].Id = 50 }},
		{"a lot is as a thing", func(w *api.World) { w.Lots[0].Id = 22 }},
		{"a lot is as its thing", func(w *api.World) { w.Lots[0].Id = 21 }},
		{"a lot is as a mobile", func(w *api.World) { w.Lots[0].Id = 9 }},
		{"a mobile is as a lot", func(w *api.World) { w.Mobs[2].Id = 50 }},
		{"two things of one number", func(w *api.World) { w.Things[1].Id = 5 }},
		{"two mobiles of one number", func(w *api.World) { w.Mobs[2].Id = 2 }},
		{"two lots of one number", func(w *api.World) { w.Lots[1].Id = 25 }},
	})
	tryAll(t, true, []turned{
		{"Next is one more", func(w *api.World) { w.Next = 51 }},
		{"the last number", func(w *api.World) { w.Things[10].Id = 63 }},
		{"the last number is a mobile's", func(w *api.World) { w.Mobs[2].Id = 63 }},
		{"the last number is a lot's", func(w *api.World) { w.Lots[1].Id = 63 }},
		{"the first number is a thing's", func(w *api.World) { w.Mobs[0].Id, w.Chars[0].Foe, w.Things[0].Id = 4, 4, 1; w.Mobs[1].Id = 6 }},
		{"huge numbers", func(w *api.World) { w.Next, w.Things[10].Id, w.Lots[1].Id = 1<<50, 1<<50-1, 1<<50-2 }},
	})
}

// P16.2: names are words of 2 to 12 letters.
func TestMayNames(t *testing.T) {
	// The last one is named, so that the list still rises; nothing hangs on it.
	named := func(name string) turned {
		return turned{name, func(w *api.World) {
			w.Chars[3].Name, w.Lots[1].Seller = name, name
			if name < "cid" {
				w.Chars = slices.Insert(w.Chars[:3], 0, w.Chars[3])
			}
		}}
	}
	var wrong, right []turned
	for _, name := range []string{
		"", "d", "z", "a", strings.Repeat("d", 13), strings.Repeat("z", 24), strings.Repeat("z", 25), strings.Repeat("z", 1000),
		"Dan", "DAN", "daN", "dan ", " dan", "d an", "dan1", "d1", "1d", "d.n", "d-n", "d_n", "dan\n", "dan\x00", "dañ", "дан", "dan\xff", "\xff\xff",
	} {
		wrong = append(wrong, named(name))
	}
	for _, name := range []string{"dd", "da", "zz", "dan", strings.Repeat("d", 11), strings.Repeat("d", 12), "zzzzzzzzzzzz", "aa", "abcdefghijkl"} {
		right = append(right, named(name))
	}
	for c := range 256 {
		name := "da" + string([]byte{byte(c)})
		if 'a' <= c && c <= 'z' {
			right = append(right, named(name))
		} else {
			wrong = append(wrong, named(name))
		}
	}
	tryAll(t, false, wrong)
	tryAll(t, true, right)
}

// P16.2: rooms, kinds and names that stand in it are there.
func TestMayIsThere(t *testing.T) {
	var l []turned
	for _, id := range []int{0, -1, -10, 1, 11, 21, 31, 61, 1000, 1001, math.MinInt, math.MaxInt} {
		l = append(l,
			turned{"a character's room", func(w *api.World) { w.Chars[1].Room = id }},
			turned{"the room of one who is not On", func(w *api.World) { w.Chars[2].Room = id }},
			turned{"a thing's room", func(w *api.World) { w.Things[10].Room = id }},
			turned{"a mobile's room", func(w *api.World) { w.Mobs[2].Room = id }},
			turned{"a house's room", func(w *api.World) { w.Houses[1].Room = id }},
			turned{"a till's room", func(w *api.World) { w.Tills[1].Room = id }})
	}
	for _, id := range []int{0, -1, -11, 1, 10, 16, 21, 31, 1000, math.MinInt, math.MaxInt} {
		l = append(l,
			turned{"a thing's kind", func(w *api.World) { w.Things[0].Proto = id }},
			turned{"the kind of a thing carried", func(w *api.World) { w.Things[1].Proto = id }},
			turned{"the kind of a thing worn", func(w *api.World) { w.Things[4].Proto = id }},
			turned{"the kind of a thing in a lot", func(w *api.World) { w.Things[2].Proto = id }})
	}
	for _, id := range []int{0, -1, -21, 1, 10, 11, 20, 24, 31, 1000, math.MinInt, math.MaxInt} {
		l = append(l, turned{"a mobile's kind", func(w *api.World) { w.Mobs[2].Proto = id }})
	}
	for _, name := range []string{"", "eve", "Ann", "ann ", "an", "rat", "\xff"} {
		l = append(l,
			turned{"who carries", func(w *api.World) { w.Things[1].Who = name }},
			turned{"who wears", func(w *api.World) { w.Things[4].Who = name }},
			turned{"a seller", func(w *api.World) { w.Lots[0].Seller = name }},
			turned{"a seller without a bid", func(w *api.World) { w.Lots[1].Seller = name }},
			turned{"a bidder", func(w *api.World) { w.Lots[0].Bidder = name }},
			turned{"an owner", func(w *api.World) { w.Houses[1].Owner = name }},
			turned{"a guest", func(w *api.World) { w.Houses[0].Guests = []string{name} }},
			turned{"a guest beside another", func(w *api.World) {
				w.Houses[0].Guests = []string{"bob", name}
				slices.Sort(w.Houses[0].Guests)
			}})
	}
	tryAll(t, false, l)
	tryAll(t, true, []turned{
		{"who is not On has a room, too", func(w *api.World) { w.Chars[2].Room = 60 }},
		{"who is not On carries", func(w *api.World) { w.Things[1].Who = "cid" }},
		{"who is not On sells", func(w *api.World) { w.Lots[0].Seller = "cid" }},
		{"who is not On bids", func(w *api.World) { w.Lots[0].Bidder = "cid" }},
		{"who sells bids, too", func(w *api.World) { w.Lots[0].Bidder = "bob" }},
	})
}

// P16.2: things are at one place each.
func TestMayPlaces(t *testing.T) {
	var l []turned
	for _, place := range []int{0, 5, -1, 100, math.MinInt, math.MaxInt} {
		l = append(l,
			turned{"a place that is none", func(w *api.World) { w.Things[0].Place = place }},
			turned{"a place that is none, with one", func(w *api.World) { w.Things[1].Place = place }},
			turned{"a place that is none, alone", func(w *api.World) { w.Things[0].Place, w.Things[0].Room = place, 0 }})
	}
	tryAll(t, false, append(l, []turned{
		{"in a room, with one", func(w *api.World) { w.Things[0].Who = "ann" }},
		{"in a room, with nobody that is there", func(w *api.World) { w.Things[0].Who = "eve" }},
		{"carried in a room", func(w *api.World) { w.Things[1].Room = 10 }},
		{"carried in no room that is there", func(w *api.World) { w.Things[1].Room = -1 }},
		{"worn in a room", func(w *api.World) { w.Things[4].Room = 10 }},
		{"in a lot in a room", func(w *api.World) { w.Things[2].Room = 60 }},
		{"in a lot, with one", func(w *api.World) { w.Things[2].Who = "dan" }},
		{"in a lot that names it not", func(w *api.World) { w.Lots = w.Lots[:1] }},
		{"one more in a lot", func(w *api.World) { w.Things[0] = api.Thing{Id: 5, Proto: 11, Place: api.InLot} }},
		{"a lot names a thing in a room", func(w *api.World) { w.Lots[1].Thing = 5 }},
		{"a lot names a thing in a room alone", func(w *api.World) { w.Things[2] = api.Thing{Id: 8, Proto: 14, Place: api.InRoom, Room: 10} }},
		{"a lot names a thing carried", func(w *api.World) {
			w.Things[2] = api.Thing{Id: 8, Proto: 14, Place: api.Carried, Who: "dan"}
		}},
		{"a lot names a thing worn", func(w *api.World) { w.Things = slices.Delete(w.Things, 2, 3); w.Lots[1].Thing = 13 }},
		{"a lot names nothing", func(w *api.World) { w.Lots[1].Thing = 0 }},
		{"a lot names a thing that is not there", func(w *api.World) { w.Things = slices.Delete(w.Things, 2, 3) }},
		{"a lot names itself", func(w *api.World) { w.Things = slices.Delete(w.Things, 2, 3); w.Lots[1].Thing = 50 }},
		{"a lot names a mobile", func(w *api.World) { w.Things = slices.Delete(w.Things, 2, 3); w.Lots[1].Thing = 9 }},
		{"two lots name one thing", func(w *api.World) { w.Lots[1].Thing = 21 }},
		{"two lots name the only thing", func(w *api.World) { w.Things = slices.Delete(w.Things, 2, 3); w.Lots[1].Thing = 21 }},
	}...))
	tryAll(t, true, []turned{
		{"lots change their things", func(w *api.World) { w.Lots[0].Thing, w.Lots[1].Thing = 8, 21 }},
		{"no lots", func(w *api.World) {
			w.Lots, w.Things = nil, slices.DeleteFunc(w.Things, func(t api.Thing) bool { return t.Place == api.InLot })
			mint(w)
		}},
		{"no things", func(w *api.World) { w.Lots, w.Things = nil, nil; mint(w) }},
	})
}

// P16.2: of a Worn thing the kind has a slot, and no two that one wears have the
// same.
func TestMayWorn(t *testing.T) {
	tryAll(t, false, []turned{
		{"worn without a slot", func(w *api.World) { w.Things[4].Proto = 11 }},
		{"worn without a slot, alone", func(w *api.World) { w.Things[7].Proto = 14 }},
		{"two of one kind", func(w *api.World) { w.Things[5].Proto = 15 }},
		{"two to wield", func(w *api.World) { w.Things[5].Proto = 12 }},
		{"two on the body", func(w *api.World) { w.Things[4].Proto = 13 }},
		{"a third one", func(w *api.World) { w.Things[1].Place = api.Worn }},
		{"two of one who is not On", func(w *api.World) { w.Things[4].Who, w.Things[7].Who = "cid", "cid" }},
		{"two without a slot", func(w *api.World) { w.Things[4].Proto, w.Things[5].Proto = 11, 11 }},
	})
	tryAll(t, true, []turned{
		{"the same with another", func(w *api.World) { w.Things[4].Proto = 12 }},
		{"one who is not On wears", func(w *api.World) { w.Things[4].Who = "cid" }},
		{"nothing worn", func(w *api.World) { w.Things[4].Place, w.Things[5].Place, w.Things[7].Place = 2, 2, 2 }},
		{"two without a slot carried", func(w *api.World) { w.Things[1].Proto, w.Things[8].Proto = 11, 11 }},
		{"two to wield carried", func(w *api.World) { w.Things[4].Place, w.Things[5].Place, w.Things[5].Proto = 2, 2, 15 }},
	})
}

// P16.2: Hp from 1 to MaxHp, a mobile's from 1 to its kind's.
func TestMayHp(t *testing.T) {
	var wrong, right []turned
	hp := func(l *[]turned, xp, hp int64) {
		*l = append(*l, turned{"a character's", func(w *api.World) { w.Chars[0].Xp, w.Chars[0].Hp = xp, hp }},
			turned{"that of one who is not On", func(w *api.World) { w.Chars[2].Xp, w.Chars[2].Hp = xp, hp }})
	}
	for _, xp := range []int64{0, 99, 100, 199, 200, 1000, most - 1, most} {
		max := 20 + xp/100*5
		for _, n := range []int64{1, 2, 20, max - 1, max} {
			hp(&right, xp, n)
		}
		for _, n := range []int64{0, -1, max + 1, max + 5, math.MaxInt64, math.MinInt64} {
			hp(&wrong, xp, n)
		}
	}
	for _, n := range []int64{1, 2, 4, 5} {
		right = append(right, turned{"a rat's", func(w *api.World) { w.Mobs[2].Hp = n }})
	}
	for _, n := range []int64{0, -1, 6, 60, math.MaxInt64, math.MinInt64} {
		wrong = append(wrong, turned{"a rat's", func(w *api.World) { w.Mobs[2].Hp = n }})
	}
	for _, n := range []int64{1, 6, 59, 60} {
		right = append(right, turned{"an ogre's", func(w *api.World) { w.Mobs[1].Hp = n }})
	}
	wrong = append(wrong, turned{"an ogre's", func(w *api.World) { w.Mobs[1].Hp = 61 }},
		turned{"a crow's", func(w *api.World) { w.Mobs[2].Proto, w.Mobs[2].Hp = 23, 2 }})
	tryAll(t, false, wrong)
	tryAll(t, true, right)
}

// P16.2: hashes have 64 bytes of 0 to 9 and a to f.
func TestMayHashes(t *testing.T) {
	var wrong, right []turned
	hashed := func(s string) turned {
		return turned{"hash " + s, func(w *api.World) { w.Chars[2].Hash = s }}
	}
	for _, n := range []int{0, 1, 32, 62, 63, 65, 66, 128, 1000} {
		wrong = append(wrong, hashed(strings.Repeat("a", n)))
	}
	for c := range 256 {
		s := string([]byte{byte(c)})
		l := &wrong
		if strings.Contains("0123456789abcdef", s) {
			l = &right
		}
		*l = append(*l, hashed(strings.Repeat("0", 63)+s), hashed(s+strings.Repeat("f", 63)), hashed(strings.Repeat("9", 30)+s+strings.Repeat("a", 33)))
	}
	wrong = append(wrong, hashed(strings.ToUpper(hash)), hashed(strings.Repeat("é", 32)), hashed(strings.Repeat("0", 62)+"é"))
	tryAll(t, false, wrong)
	tryAll(t, true, right)
}

// P16.2: Xp, gold from 0 to 2^40, in each place.
func TestMayGold(t *testing.T) {
	var wrong, right []turned
	for _, n := range []int64{-1, most + 1, 2 * most, math.MinInt64, math.MaxInt64, -most} {
		wrong = append(wrong, turned{"xp", func(w *api.World) { w.Chars[0].Xp = n; w.Chars[0].Hp = 1 }})
	}
	for _, n := range []int64{0, 1, most - 1, most} {
		right = append(right, turned{"xp", func(w *api.World) { w.Chars[0].Xp = n; w.Chars[0].Hp = 20 }})
	}
	for about, put := range map[string]func(w *api.World, n int64){
		"gold":              func(w *api.World, n int64) { w.Chars[0].Gold = n },
		"in the bank":       func(w *api.World, n int64) { w.Chars[0].Bank = n },
		"the last one's":    func(w *api.World, n int64) { w.Chars[3].Gold = n },
		"off, in the bank":  func(w *api.World, n int64) { w.Chars[2].Bank = n },
		"a chest":           func(w *api.World, n int64) { w.Houses[0].Chest = n },
		"the last chest":    func(w *api.World, n int64) { w.Houses[1].Chest = n },
		"a till":            func(w *api.World, n int64) { w.Tills[0].Gold = n },
		"the last till":     func(w *api.World, n int64) { w.Tills[1].Gold = n },
		"a bid on the last": func(w *api.World, n int64) { w.Lots[1].Bid, w.Lots[1].Bidder = n, "ann" },
	} {
		for _, n := range []int64{-1, -2, most + 1, most + 100} {
			wrong = append(wrong, turned{about, func(w *api.World) { put(w, n); mint(w) }})
		}
		for _, n := range []int64{1, 2, most - 1, most} {
			right = append(right, turned{about, func(w *api.World) { put(w, n); mint(w) }})
		}
	}
	right = append(right, turned{"none at all", func(w *api.World) {
		for i := range w.Chars {
			w.Chars[i].Gold, w.Chars[i].Bank = 0, 0
		}
		w.Houses[0].Chest, w.Tills[0].Gold, w.Lots[0].Bid, w.Lots[0].Bidder, w.Minted = 0, 0, 0, "", 0
	}}, turned{"much of it", func(w *api.World) {
		for i := range w.Chars {
			w.Chars[i].Gold, w.Chars[i].Bank = most, most
		}
		w.Houses[0].Chest, w.Tills[0].Gold, w.Lots[0].Bid = most, most, most
		w.Minted = 11*most + w.Tills[1].Gold
	}})
	tryAll(t, false, wrong)
	tryAll(t, true, right)
}

// P16.2: a Foe is a mobile in the room of a character that is On.
func TestMayFoe(t *testing.T) {
	tryAll(t, false, []turned{
		{"elsewhere", func(w *api.World) { w.Chars[0].Foe = 2 }},
		{"elsewhere, of another", func(w *api.World) { w.Chars[1].Foe = 1 }},
		{"of one who is not On", func(w *api.World) { w.Chars[2].Foe = 1 }},
		{"of one who is not On any more", func(w *api.World) { w.Chars[0].On = false }},
		{"the one who fights went", func(w *api.World) { w.Chars[0].Room = 40 }},
		{"the mobile went", func(w *api.World) { w.Mobs[0].Room = 40 }},
		{"the mobile is gone", func(w *api.World) { w.Mobs = w.Mobs[1:] }},
		{"no mobile", func(w *api.World) { w.Chars[0].Foe = 3 }},
		{"a kind of mobiles", func(w *api.World) { w.Chars[0].Foe = 21 }},
		{"a thing there", func(w *api.World) { w.Chars[0].Foe = 5 }},
		{"a lot", func(w *api.World) { w.Chars[0].Foe = 25 }},
		{"below 0", func(w *api.World) { w.Chars[0].Foe = -1 }},
		{"the greatest", func(w *api.World) { w.Chars[0].Foe = math.MaxInt64 }},
	})
	tryAll(t, true, []turned{
		{"none", func(w *api.World) { w.Chars[0].Foe = 0 }},
		{"another one there", func(w *api.World) { w.Chars[0].Foe = 9 }},
		{"one in another room", func(w *api.World) { w.Chars[1].Foe = 2 }},
		{"the same of two", func(w *api.World) { w.Chars[3].Foe = 1 }},
		{"two there", func(w *api.World) { w.Chars[3].Foe = 9 }},
		{"both went", func(w *api.World) { w.Chars[0].Room, w.Mobs[0].Room = 60, 60 }},
	})
}

// P16.2: Done rises, and is of quests.
func TestMayDone(t *testing.T) {
	done := func(l ...int) turned {
		return turned{show(l), func(w *api.World) { w.Chars[0].Done = l }}
	}
	tryAll(t, false, []turned{
		done(33, 31), done(31, 31), done(31, 33, 32), done(31, 33, 33), done(30), done(34), done(31, 34), done(0), done(-31), done(0, 31), done(-1, 31),
		done(1), done(11), done(math.MinInt), done(math.MaxInt), done(31, 32, 33, math.MaxInt),
		{"of one who is not On", func(w *api.World) { w.Chars[2].Done = []int{33, 32} }},
	})
	tryAll(t, true, []turned{done(), done(31), done(32), done(33), done(31, 32), done(32, 33), done(31, 32, 33)})
}

// P16.2: houses are of house rooms, owner and guests are characters, guests rise,
// without the owner.
func TestMayHouses(t *testing.T) {
	var wrong []turned
	for _, room := range []int{10, 20, 30, 40, 60, 70} {
		wrong = append(wrong, turned{"another kind of room", func(w *api.World) { w.Houses = w.Houses[:1]; w.Houses[0].Room = room }})
	}
	guests := func(l ...string) turned {
		return turned{show(l), func(w *api.World) { w.Houses[0].Guests = l }}
	}
	tryAll(t, false, append(wrong,
		guests("ann"), guests("ann", "bob"), guests("ann", "bob", "cid"), guests("cid", "bob"), guests("bob", "bob"), guests("bob", "cid", "cid"), guests("bob", "dan", "cid"), guests("", "bob"),
		turned{"the owner is the last guest", func(w *api.World) { w.Houses[0].Owner = "cid" }},
		turned{"the owner is a guest", func(w *api.World) { w.Houses[0].Owner = "bob" }},
		turned{"nobody's", func(w *api.World) { w.Houses[0].Owner = "" }},
		turned{"nobody's, nobody a guest", func(w *api.World) { w.Houses[1].Owner = "" }},
		turned{"of the last house", func(w *api.World) { w.Houses[1].Guests = []string{"cid"} }},
	))
	tryAll(t, true, []turned{
		guests(), guests("bob"), guests("dan"), guests("bob", "dan"), guests("bob", "cid", "dan"),
		{"one owns both", func(w *api.World) { w.Houses[1].Owner = "ann" }},
		{"an owner is a guest elsewhere", func(w *api.World) { w.Houses[1].Guests = []string{"ann"} }},
		{"no houses", func(w *api.World) { w.Houses = nil; mint(w) }},
		{"the other house", func(w *api.World) { w.Houses = w.Houses[1:]; mint(w) }},
	})
}

// P16.2: of lots: a bidder just if there is a Bid, Bid not below Min, Min from 1
// on, Ends above Now.
func TestMayLots(t *testing.T) {
	lot := func(about string, turn func(l *api.Lot)) turned {
		return turned{about, func(w *api.World) { turn(&w.Lots[0]); mint(w) }}
	}
	tryAll(t, false, []turned{
		lot("a bid by nobody", func(l *api.Lot) { l.Bidder = "" }),
		lot("a bidder without a bid", func(l *api.Lot) { l.Bid = 0 }),
		lot("a bidder below 0", func(l *api.Lot) { l.Bid = -1 }),
		lot("nobody below 0", func(l *api.Lot) { l.Bid, l.Bidder = -9, "" }),
		lot("a bid below Min", func(l *api.Lot) { l.Bid = 4 }),
		lot("a bid of 1 below Min", func(l *api.Lot) { l.Bid = 1 }),
		lot("a Min above the bid", func(l *api.Lot) { l.Min = 10 }),
		lot("a Min of 0", func(l *api.Lot) { l.Min = 0 }),
		lot("a Min of 0, without a bid", func(l *api.Lot) { l.Min, l.Bid, l.Bidder = 0, 0, "" }),
		lot("a Min below 0", func(l *api.Lot) { l.Min = -1 }),
		lot("the least Min", func(l *api.Lot) { l.Min = math.MinInt64 }),
		lot("the greatest Min, with a bid", func(l *api.Lot) { l.Min = math.MaxInt64 }),
		lot("Ends at Now", func(l *api.Lot) { l.Ends = 100 }),
		lot("Ends ahead of Now", func(l *api.Lot) { l.Ends = 99 }),
		lot("Ends at 0", func(l *api.Lot) { l.Ends = 0 }),
		lot("Ends below 0", func(l *api.Lot) { l.Ends = -1 }),
		{"the last one Ends", func(w *api.World) { w.Now = 101 }},
	})
	tryAll(t, true, []turned{
		lot("a bid of Min", func(l *api.Lot) { l.Bid = 5 }),
		lot("a Min of the bid", func(l *api.Lot) { l.Min = 9 }),
		lot("a Min of 1", func(l *api.Lot) { l.Min = 1 }),
		lot("a bid of 1", func(l *api.Lot) { l.Min, l.Bid = 1, 1 }),
		lot("no bid", func(l *api.Lot) { l.Bid, l.Bidder = 0, "" }),
		lot("a great Min", func(l *api.Lot) { l.Bid, l.Bidder, l.Min = 0, "", most }),
		lot("all of it", func(l *api.Lot) { l.Min, l.Bid = most, most }),
		lot("Ends at once", func(l *api.Lot) { l.Ends = 101 }),
		lot("Ends late", func(l *api.Lot) { l.Ends = 1 << 50 }),
		{"right ahead of the last one's end", func(w *api.World) { w.Now, w.Lots[0].Ends = 100, 101 }},
	})
}

// P16.2: tills are just those of the shops.
func TestMayTills(t *testing.T) {
	tills := func(l ...api.Till) turned {
		return turned{show(l), func(w *api.World) { w.Tills = l; mint(w) }}
	}
	at := func(room int) api.Till { return api.Till{Room: room, Gold: 3} }
	tryAll(t, false, []turned{
		tills(), tills(at(20)), tills(at(70)), tills(at(20), at(20)), tills(at(70), at(20)), tills(at(10), at(20), at(70)), tills(at(20), at(30), at(70)),
		tills(at(20), at(70), at(80)), tills(at(20), at(70), at(1000)), tills(at(20), at(60)), tills(at(10), at(70)), tills(at(0), at(20), at(70)), tills(at(-1), at(20), at(70)),
		tills(at(20), at(70), at(70)), tills(at(0), at(0)),
	})
	tryAll(t, true, []turned{tills(at(20), at(70)), tills(api.Till{Room: 20}, api.Till{Room: 70})})
	db := tables(t)
	db.Shops = db.Shops[:1]
	mayNot(t, "a till too many", town(), db)
	db.Shops = nil
	mayNot(t, "tills, but no shops", town(), db)
	w := town()
	w.Tills = nil
	mint(w)
	may(t, "neither tills nor shops", w, db)
}

// P16.2: Total is Minted.
func TestMayMinted(t *testing.T) {
	total := town().Minted
	minted := func(n int64) turned {
		return turned{show(n), func(w *api.World) { w.Minted = n }}
	}
	tryAll(t, false, []turned{
		minted(total - 1), minted(total + 1), minted(0), minted(-total), minted(math.MinInt64), minted(math.MaxInt64),
		{"gold", func(w *api.World) { w.Chars[1].Gold++ }},
		{"in the bank", func(w *api.World) { w.Chars[2].Bank-- }},
		{"a chest", func(w *api.World) { w.Houses[1].Chest++ }},
		{"a till", func(w *api.World) { w.Tills[1].Gold++ }},
		{"a bid", func(w *api.World) { w.Lots[0].Bid++ }},
	})
	tryAll(t, true, []turned{
		minted(total),
		{"from one to another", func(w *api.World) { w.Chars[0].Gold--; w.Tills[1].Gold++ }},
		{"what a lot asks is no gold", func(w *api.World) { w.Lots[1].Min += 5 }},
	})
}

// P16.2: Now is from 0 to 2^50, Next from 1 to 2^50.
func TestMayTime(t *testing.T) {
	db := tables(t)
	for _, c := range []struct {
		now, next int64
		want      bool
	}{
		{0, 4, true}, {1, 4, true}, {1<<50 - 1, 4, true}, {1 << 50, 4, true}, {0, 1<<50 - 1, true}, {0, 1 << 50, true}, {1 << 50, 1 << 50, true},
		{-1, 4, false}, {1<<50 + 1, 4, false}, {math.MinInt64, 4, false}, {math.MaxInt64, 4, false},
		{0, 1<<50 + 1, false}, {0, math.MaxInt64, false}, {0, 3, false}, {0, 0, false}, {0, -1, false}, {0, math.MinInt64, false},
	} {
		w := entity.New(db)
		w.Now, w.Next = c.now, c.next
		if got := entity.May(w, db); got != c.want {
			t.Errorf("Now %d, Next %d: %v", c.now, c.next, got)
		}
	}
	// Without anything that has a number, Next alone counts.
	for next, want := range map[int64]bool{1: true, 2: true, 0: false, -1: false, math.MinInt64: false} {
		w := &api.World{Next: next, Tills: []api.Till{{Room: 20}, {Room: 70}}}
		if got := entity.May(w, db); got != want {
			t.Errorf("Next %d: %v", next, got)
		}
	}
}
