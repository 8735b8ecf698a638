package worlddb_test

import (
	"fmt"
	"math"
	"slices"
	"strings"
	"testing"

	"lychgate/api"
)

// P13.2: tables that are as they must be.
func TestCheck(t *testing.T) {
	checks(t, "small", smallDb(), 0)
	checks(t, "least", leastDb(), 0)
	checks(t, "greatest", greatestDb(), 0)
	checks(t, "wide", wideDb(), 0)
	checks(t, "a room alone", &api.Db{Rooms: []api.Room{{Id: 7, Name: "a"}}}, 0)
}

// P13.2, P0.4: no tables, and no room.
func TestCheckNothing(t *testing.T) {
	checks(t, "nil", nil, api.ErrLine)
	checks(t, "nothing", &api.Db{}, api.ErrLine)
	checks(t, "empty lists", &api.Db{Rooms: []api.Room{}, Protos: []api.Proto{}, Mobs: []api.MobProto{}, Recipes: []api.Recipe{}, Quests: []api.Quest{}, Shops: []api.Shop{}}, api.ErrLine)
	for _, none := range [][]api.Room{nil, {}} {
		db := smallDb()
		db.Rooms = none
		checks(t, "no room", db, api.ErrLine)
		checks(t, "items alone", &api.Db{Rooms: none, Protos: smallDb().Protos}, api.ErrLine)
	}
	for _, none := range [][]int{nil, {}} {
		db := smallDb()
		db.Shops[1].Items = none
		checks(t, "a shop of no item", db, 0)
		db.Recipes[1].Needs = none
		checks(t, "a recipe of no need", db, api.ErrLine)
	}
	db := smallDb()
	db.Protos, db.Mobs, db.Recipes, db.Quests, db.Shops = nil, []api.MobProto{}, nil, []api.Quest{}, nil
	checks(t, "rooms alone", db, 0)
}

// wideDb has rooms and items of the least number and the greatest.
func wideDb() *api.Db {
	return &api.Db{
		Rooms:   []api.Room{{Id: 1, Name: "a", Kind: api.RShop}, {Id: 1000, Name: "b", Kind: api.RShop}},
		Protos:  []api.Proto{{Id: 1, Name: "a"}, {Id: 1000, Name: "b"}},
		Mobs:    []api.MobProto{{Id: 500, Name: "a", Home: 1, Hp: 1}},
		Recipes: []api.Recipe{{Out: 1, Needs: []int{1, 1000}}},
		Quests:  []api.Quest{{Id: 500, Item: 1, Count: 1}},
		Shops:   []api.Shop{{Room: 1, Items: []int{1, 1000}}},
	}
}

// field is a number of a table, with its bounds.
type field struct {
	name        string
	least, most int64
	set         func(db *api.Db, n int64)
}

// beside answers a list that rises, if it may, of n and these.
func beside(n int64, l ...int) []int {
	l = append(l, int(n))
	slices.Sort(l)
	return l
}

func fields() []field {
	l := []field{
		{"a room's number", 1, 1000, func(db *api.Db, n int64) { *db = api.Db{Rooms: []api.Room{{Id: int(n), Name: "a"}}} }},
		{"KIND", 0, 5, func(db *api.Db, n int64) { db.Rooms[1].Kind = int(n) }},
		{"a room's PRICE", 0, 1 << 30, func(db *api.Db, n int64) { db.Rooms[1].Price = n }},
		{"an item's number", 1, 1000, func(db *api.Db, n int64) {
			*db = api.Db{Rooms: db.Rooms, Protos: []api.Proto{{Id: int(n), Name: "a"}}}
		}},
		{"SLOT", 0, 2, func(db *api.Db, n int64) { db.Protos[0].Slot = int(n) }},
		{"an item's POWER", 0, 100, func(db *api.Db, n int64) { db.Protos[1].Power = n }},
		{"an item's PRICE", 0, 1 << 30, func(db *api.Db, n int64) { db.Protos[0].Price = n }},
		{"a mobile's number", 1, 1000, func(db *api.Db, n int64) { db.Mobs[0].Id = int(n) }},
		{"a mobile's ROOM", 1, 1000, func(db *api.Db, n int64) { db.Mobs[0].Home = int(n) }},
		{"HP", 1, 10000, func(db *api.Db, n int64) { db.Mobs[0].Hp = n }},
		{"a mobile's POWER", 0, 100, func(db *api.Db, n int64) { db.Mobs[0].Power = n }},
		{"XP", 0, 10000, func(db *api.Db, n int64) { db.Mobs[0].Xp = n }},
		{"a mobile's GOLD", 0, 1 << 30, func(db *api.Db, n int64) { db.Mobs[0].Gold = n }},
		{"OUT", 1, 1000, func(db *api.Db, n int64) { db.Recipes[0].Out = int(n) }},
		{"a NEED", 1, 1000, func(db *api.Db, n int64) { db.Recipes[0].Needs = beside(n) }},
		{"a NEED beside one", 1, 1000, func(db *api.Db, n int64) { db.Recipes[0].Needs = beside(n, 1) }},
		{"a NEED beside four", 1, 1000, func(db *api.Db, n int64) { db.Recipes[0].Needs = beside(n, 1, 1, 1000, 1000) }},
		{"an errand's number", 1, 1000, func(db *api.Db, n int64) { db.Quests[0].Id = int(n) }},
		{"an errand's ITEM", 1, 1000, func(db *api.Db, n int64) { db.Quests[0].Item = int(n) }},
		{"COUNT", 1, 5, func(db *api.Db, n int64) { db.Quests[0].Count = int(n) }},
		{"an errand's GOLD", 0, 1 << 30, func(db *api.Db, n int64) { db.Quests[0].Gold = n }},
		{"REWARD", 0, 1000, func(db *api.Db, n int64) { db.Quests[0].Reward = int(n) }},
		{"a shop's ROOM", 1, 1000, func(db *api.Db, n int64) { db.Shops[0].Room = int(n) }},
		{"TILL", 0, 1 << 30, func(db *api.Db, n int64) { db.Shops[0].Till = n }},
		{"a shop's ITEM", 1, 1000, func(db *api.Db, n int64) { db.Shops[0].Items = beside(n) }},
	}
	for i := range 6 {
		l = append(l, field{"exit", 0, 1000, func(db *api.Db, n int64) { db.Rooms[i%2].Exits[i] = int(n) }})
	}
	return l
}

// P13.2: each number at its least and its greatest, and beyond.
func TestCheckBounds(t *testing.T) {
	for _, f := range fields() {
		for _, n := range []int64{f.least, f.most} {
			db := wideDb()
			f.set(db, n)
			checks(t, fmt.Sprint(f.name, " ", n), db, 0)
		}
		for _, n := range []int64{
			f.least - 1, f.least - 2, -f.most, -1, math.MinInt64, math.MinInt64 + 1, -1 << 32, f.least - 1<<32,
			f.most + 1, f.most + 2, f.most * 2, 1<<31 + f.least, 1<<32 + f.least, 1 << 40, math.MaxInt64, math.MaxInt64 - 1,
		} {
			db := wideDb()
			f.set(db, n)
			checks(t, fmt.Sprint(f.name, " ", n), db, api.ErrLine)
		}
	}
	for _, n := range []int64{0, math.MinInt64, 1001, 1<<32 + 1, math.MaxInt64} {
		db := wideDb()
		db.Shops[0].Items = beside(n, 1)
		checks(t, fmt.Sprint("a shop's second ITEM ", n), db, api.ErrLine)
	}
}

// P13.2: names of rooms, items and mobiles.
func TestCheckNames(t *testing.T) {
	sets := []func(db *api.Db, s string){
		func(db *api.Db, s string) { db.Rooms[0].Name = s },
		func(db *api.Db, s string) { db.Rooms[1].Name = s },
		func(db *api.Db, s string) { db.Protos[0].Name = s },
		func(db *api.Db, s string) { db.Protos[1].Name = s },
		func(db *api.Db, s string) { db.Mobs[0].Name = s },
	}
	for k, set := range sets {
		for _, s := range names().good {
			db := wideDb()
			set(db, s)
			checks(t, fmt.Sprint("name ", k), db, 0)
		}
		for _, s := range append(names().bad, "", " ", "a b", " a", "a\n", "a\t", strings.Repeat("a", 1<<20)) {
			db := wideDb()
			set(db, s)
			checks(t, fmt.Sprint("name ", k), db, api.ErrLine)
		}
	}
}

// P13.2: a recipe has one to five needs, a shop no to eight items.
func TestCheckLengths(t *testing.T) {
	for n := range 300 {
		want := api.Err(0)
		if n < 1 || n > 5 {
			want = api.ErrLine
		}
		db := greatestDb()
		db.Recipes[n%60].Needs = slices.Repeat([]int{950}, n)
		checks(t, fmt.Sprint(n, " needs"), db, want)
	}
	for n := range 60 {
		want := api.Err(0)
		if n > 8 {
			want = api.ErrLine
		}
		db := greatestDb()
		db.Shops[n].Items = nil
		for i := range n {
			db.Shops[n].Items = append(db.Shops[n].Items, 941+i)
		}
		checks(t, fmt.Sprint(n, " items"), db, want)
	}
	db := greatestDb()
	db.Recipes[0].Needs = slices.Repeat([]int{1000}, 1<<18)
	checks(t, "many needs", db, api.ErrLine)
	db = greatestDb()
	db.Shops[0].Items = slices.Repeat([]int{1000}, 1<<18)
	checks(t, "many items", db, api.ErrLine)
}

// P13.2: needs may be equal, items not, and neither may fall.
func TestCheckNeedsAndItemsRise(t *testing.T) {
	for _, c := range []struct {
		l            []int
		needs, items api.Err
	}{
		{[]int{4}, 0, 0}, {[]int{4, 7}, 0, 0}, {[]int{4, 7, 9}, 0, 0}, {[]int{4, 9}, 0, 0},
		{[]int{4, 4}, 0, api.ErrLine}, {[]int{9, 9}, 0, api.ErrLine}, {[]int{4, 4, 7}, 0, api.ErrLine}, {[]int{4, 7, 7}, 0, api.ErrLine},
		{[]int{7, 7, 7, 7, 7}, 0, api.ErrLine}, {[]int{4, 4, 7, 9, 9}, 0, api.ErrLine},
		{[]int{7, 4}, api.ErrLine, api.ErrLine}, {[]int{9, 7}, api.ErrLine, api.ErrLine}, {[]int{7, 4, 9}, api.ErrLine, api.ErrLine},
		{[]int{4, 9, 7}, api.ErrLine, api.ErrLine}, {[]int{4, 7, 4}, api.ErrLine, api.ErrLine}, {[]int{4, 7, 7, 4}, api.ErrLine, api.ErrLine},
		{[]int{9, 7, 4}, api.ErrLine, api.ErrLine}, {[]int{4, 7, 9, 9, 7}, api.ErrLine, api.ErrLine}, {[]int{7, 7, 7, 7, 4}, api.ErrLine, api.ErrLine},
	} {
		for i := range 2 {
			db := smallDb()
			db.Recipes[i].Needs = c.l
			checks(t, fmt.Sprint("needs ", c.l), db, c.needs)
			db = smallDb()
			db.Shops[i].Items = c.l
			checks(t, fmt.Sprint("items ", c.l), db, c.items)
		}
	}
}

// turns does a thing to each list of tables; what is done to its numbers is told
// by these.
func turns(turn func(n int, swap func(i, j int), repeat func(i, j int))) []func(db *api.Db) {
	return []func(db *api.Db){
		func(db *api.Db) { turnList(db.Rooms, turn) }, func(db *api.Db) { turnList(db.Protos, turn) },
		func(db *api.Db) { turnList(db.Mobs, turn) }, func(db *api.Db) { turnList(db.Recipes, turn) },
		func(db *api.Db) { turnList(db.Quests, turn) }, func(db *api.Db) { turnList(db.Shops, turn) },
	}
}

func turnList[T any](l []T, turn func(n int, swap func(i, j int), repeat func(i, j int))) {
	turn(len(l), func(i, j int) { l[i], l[j] = l[j], l[i] }, func(i, j int) { l[j] = l[i] })
}

// P13.2: each list rises, at all places, and no number comes twice.
func TestCheckListsRise(t *testing.T) {
	for k := range 59 {
		for i, turn := range turns(func(n int, swap, repeat func(i, j int)) { swap(k, k+1) }) {
			db := greatestDb()
			turn(db)
			checks(t, fmt.Sprint("list ", i, " swapped at ", k), db, api.ErrLine)
		}
		for i, turn := range turns(func(n int, swap, repeat func(i, j int)) { swap(k, 59) }) {
			db := greatestDb()
			turn(db)
			checks(t, fmt.Sprint("list ", i, " swapped far at ", k), db, api.ErrLine)
		}
	}
	for i, turn := range turns(func(n int, swap, repeat func(i, j int)) { repeat(0, 1) }) {
		db := smallDb()
		turn(db)
		checks(t, fmt.Sprint("list ", i, " with a number twice"), db, api.ErrLine)
	}
	// Here nothing is gone that another list names.
	db := smallDb()
	db.Rooms = slices.Insert(db.Rooms, 2, api.Room{Id: 10, Name: "another"})
	checks(t, "two rooms", db, api.ErrLine)
	db = smallDb()
	db.Protos = append(db.Protos, api.Proto{Id: 9, Name: "another"})
	checks(t, "two items", db, api.ErrLine)
	db = smallDb()
	db.Mobs = slices.Insert(db.Mobs, 0, api.MobProto{Id: 2, Name: "another", Home: 1, Hp: 1})
	checks(t, "two mobiles", db, api.ErrLine)
	db = smallDb()
	db.Recipes = append(db.Recipes, api.Recipe{Out: 9, Needs: []int{4}})
	checks(t, "two recipes", db, api.ErrLine)
	db = smallDb()
	db.Quests = append(db.Quests, api.Quest{Id: 3, Item: 4, Count: 1})
	checks(t, "two errands", db, api.ErrLine)
	db = smallDb()
	db.Shops = append(db.Shops, api.Shop{Room: 30})
	checks(t, "two shops", db, api.ErrLine)
}

// P13.2: no list is longer than sixty; a list of sixty is in TestCheck.
func TestCheckTooMany(t *testing.T) {
	for n := 1; n <= 900; n += 58 {
		for k, add := range []func(db *api.Db, id int){
			func(db *api.Db, id int) {
				db.Rooms = slices.Insert(db.Rooms, 0, api.Room{Id: id, Name: "a"})
			},
			func(db *api.Db, id int) {
				db.Protos = slices.Insert(db.Protos, 0, api.Proto{Id: id, Name: "a"})
			},
			func(db *api.Db, id int) {
				db.Mobs = slices.Insert(db.Mobs, 0, api.MobProto{Id: id, Name: "a", Home: 1000, Hp: 1})
			},
			func(db *api.Db, id int) {
				db.Recipes = slices.Insert(db.Recipes, 0, api.Recipe{Out: id, Needs: []int{1000}})
			},
			func(db *api.Db, id int) {
				db.Quests = slices.Insert(db.Quests, 0, api.Quest{Id: id, Item: 1000, Count: 1})
			},
			func(db *api.Db, id int) { db.Shops = slices.Insert(db.Shops, 0, api.Shop{Room: id}) },
		} {
			db := greatestDb()
			for i := range n {
				add(db, 940-i)
			}
			checks(t, fmt.Sprint("list ", k, " of ", 60+n), db, api.ErrLine)
		}
	}
}

// missing are tables' changes that leave nothing but something that is not there.
func missing() map[string]func(db *api.Db) {
	m := map[string]func(db *api.Db){
		"a mobile's room":       func(db *api.Db) { db.Mobs[0].Home = 2 },
		"the last mobile's":     func(db *api.Db) { db.Mobs[1].Home = 1000 },
		"a room below all":      func(db *api.Db) { db.Rooms, db.Mobs[0].Home = db.Rooms[1:], 1 },
		"a made item":           func(db *api.Db) { db.Recipes[0].Out = 3 },
		"the last made item":    func(db *api.Db) { db.Recipes[1].Out = 10 },
		"a need":                func(db *api.Db) { db.Recipes[0].Needs[0] = 8 },
		"the first need":        func(db *api.Db) { db.Recipes[1].Needs[0] = 1 },
		"a need between":        func(db *api.Db) { db.Recipes[1].Needs[1] = 6 },
		"the last need":         func(db *api.Db) { db.Recipes[1].Needs[2] = 1000 },
		"an errand's item":      func(db *api.Db) { db.Quests[0].Item = 8 },
		"the last errand's":     func(db *api.Db) { db.Quests[1].Item = 1000 },
		"a reward":              func(db *api.Db) { db.Quests[0].Reward = 8 },
		"the last reward":       func(db *api.Db) { db.Quests[1].Reward = 1 },
		"a shop's room":         func(db *api.Db) { db.Shops[0].Room = 24 },
		"the last shop's":       func(db *api.Db) { db.Shops[1].Room = 1000 },
		"a shop's only item":    func(db *api.Db) { db.Shops[0].Items = []int{8} },
		"a shop's first item":   func(db *api.Db) { db.Shops[1].Items[0] = 3 },
		"a shop's item between": func(db *api.Db) { db.Shops[1].Items[1] = 8 },
		"a shop's last item":    func(db *api.Db) { db.Shops[1].Items[2] = 1000 },
		"no items":              func(db *api.Db) { db.Protos = nil },
		// 10 is a room, 4 an item, 2 a mobile, and nothing else.
		"a room as an item": func(db *api.Db) { db.Quests[0].Item = 10 },
		"an item as a room": func(db *api.Db) { db.Mobs[0].Home = 4 },
		"an item as exit":   func(db *api.Db) { db.Rooms[0].Exits[0] = 4 },
		"a mobile as item":  func(db *api.Db) { db.Quests[0].Reward = 2 },
	}
	for d := range 6 {
		for i := range smallDb().Rooms {
			m[fmt.Sprint("exit ", d, " of room ", i)] = func(db *api.Db) { db.Rooms[i].Exits[d] = 2 + 499*(i%3) }
		}
	}
	for _, kind := range []int{api.RPlain, api.RBank, api.RForge, api.RHouse, api.RHall} {
		for i := 3; i <= 4; i++ {
			m[fmt.Sprint("shop ", i, " of kind ", kind)] = func(db *api.Db) { db.Rooms[i].Kind = kind }
		}
	}
	return m
}

// P13.2: what the tables name and is not there.
func TestCheckMissing(t *testing.T) {
	for about, turn := range missing() {
		db := smallDb()
		turn(db)
		checks(t, about, db, api.ErrNotFound)
	}
}

// wrong are tables' changes that leave something wrong, and perhaps something
// missing, too.
func wrong() map[string]func(db *api.Db) {
	return map[string]func(db *api.Db){
		"a room's number": func(db *api.Db) { db.Rooms[0].Id = 0 },
		"the last room's": func(db *api.Db) { db.Rooms[len(db.Rooms)-1].Id = 1001 },
		"a room's name":   func(db *api.Db) { db.Rooms[2].Name = "Cottage" },
		"a kind":          func(db *api.Db) { db.Rooms[3].Kind = 6 },
		"a room's price":  func(db *api.Db) { db.Rooms[1].Price = -1 },
		"an exit":         func(db *api.Db) { db.Rooms[len(db.Rooms)-1].Exits[5] = 1001 },
		"two rooms":       func(db *api.Db) { db.Rooms = append(db.Rooms, db.Rooms[len(db.Rooms)-1]) },
		"no rooms":        func(db *api.Db) { db.Rooms = nil },
		"an item's name":  func(db *api.Db) { db.Protos = append(db.Protos, api.Proto{Id: 999}) },
		"an item's slot":  func(db *api.Db) { db.Protos = append(db.Protos, api.Proto{Id: 999, Name: "a", Slot: 3}) },
		"an item's power": func(db *api.Db) { db.Protos = append(db.Protos, api.Proto{Id: 999, Name: "a", Power: 101}) },
		"items that fall": func(db *api.Db) {
			db.Protos = append(db.Protos, api.Proto{Id: 999, Name: "a"}, api.Proto{Id: 998, Name: "a"})
		},
		"a mobile's room":   func(db *api.Db) { db.Mobs[1].Home = 0 },
		"a mobile's hp":     func(db *api.Db) { db.Mobs[1].Hp = 0 },
		"two mobiles":       func(db *api.Db) { db.Mobs[1].Id = db.Mobs[0].Id },
		"a made item":       func(db *api.Db) { db.Recipes = append(db.Recipes, api.Recipe{Out: 1001, Needs: []int{7}}) },
		"no needs":          func(db *api.Db) { db.Recipes = append(db.Recipes, api.Recipe{Out: 999}) },
		"needs that fall":   func(db *api.Db) { db.Recipes = append(db.Recipes, api.Recipe{Out: 999, Needs: []int{7, 4}}) },
		"two recipes":       func(db *api.Db) { db.Recipes = append(db.Recipes, api.Recipe{Out: 4, Needs: []int{7}}) },
		"a need":            func(db *api.Db) { db.Recipes = append(db.Recipes, api.Recipe{Out: 999, Needs: []int{0}}) },
		"a count":           func(db *api.Db) { db.Quests[1].Count = 6 },
		"a reward":          func(db *api.Db) { db.Quests[1].Reward = -1 },
		"errands that fall": func(db *api.Db) { db.Quests[0].Id = 4 },
		"a till":            func(db *api.Db) { db.Shops = append(db.Shops, api.Shop{Room: 1000, Till: 1<<30 + 1}) },
		"equal items":       func(db *api.Db) { db.Shops = append(db.Shops, api.Shop{Room: 1000, Items: []int{4, 4}}) },
		"shops that fall":   func(db *api.Db) { db.Shops = append(db.Shops, api.Shop{Room: 1}) },
		"an item of a shop": func(db *api.Db) { db.Shops = append(db.Shops, api.Shop{Room: 1000, Items: []int{1001}}) },
		"too many mobiles":  func(db *api.Db) { db.Mobs = greatestDb().Mobs; db.Mobs = append(db.Mobs, db.Mobs[0]) },
	}
}

// P13.2: what is wrong counts ahead of what is missing, wherever either stands.
func TestCheckWrongAheadOfMissing(t *testing.T) {
	for about, turn := range wrong() {
		db := smallDb()
		turn(db)
		checks(t, about, db, api.ErrLine)
		for lack, take := range missing() {
			db := smallDb()
			take(db)
			turn(db)
			checks(t, about+", and not there: "+lack, db, api.ErrLine)
		}
	}
}

// P13.2: what no word of the chapter forbids.
func TestCheckTakes(t *testing.T) {
	for about, turn := range map[string]func(db *api.Db){
		"a way to the room itself":        func(db *api.Db) { db.Rooms[1].Exits = [6]int{10, 10, 10, 10, 10, 10} },
		"rooms of one name":               func(db *api.Db) { db.Rooms[0].Name = "gate" },
		"items of one name":               func(db *api.Db) { db.Protos[0].Name = "sword" },
		"mobiles of one name":             func(db *api.Db) { db.Mobs[0].Name = "rat" },
		"a name of all kinds":             func(db *api.Db) { db.Rooms[0].Name, db.Protos[0].Name, db.Mobs[0].Name = "x", "x", "x" },
		"a recipe of what it makes":       func(db *api.Db) { db.Recipes[0].Needs = []int{4, 4} },
		"an errand for its own item":      func(db *api.Db) { db.Quests[0].Reward = 7 },
		"errands of one item":             func(db *api.Db) { db.Quests[0].Item = 4 },
		"a price of what is no house":     func(db *api.Db) { db.Rooms[0].Price = 1 << 30 },
		"a house for nothing":             func(db *api.Db) { db.Rooms[2].Price = 0 },
		"a shop's room without a shop":    func(db *api.Db) { db.Shops = db.Shops[:1] },
		"one item in several shops":       func(db *api.Db) { db.Shops[0].Items = []int{4, 9} },
		"mobiles of one home":             func(db *api.Db) { db.Mobs[0].Home = 10 },
		"power of what has no slot":       func(db *api.Db) { db.Protos[2].Power = 100 },
		"one number in each of the lists": func(db *api.Db) { db.Rooms[0].Id, db.Mobs[0].Id, db.Rooms[1].Exits[4] = 4, 4, 4 },
	} {
		db := smallDb()
		turn(db)
		checks(t, about, db, 0)
		parses(t, strings.Join(textOf(db), "\n"), db)
	}
}

// P0.1: lists that are very long.
func TestCheckLong(t *testing.T) {
	const n = 1 << 18
	checks(t, "rooms", &api.Db{Rooms: make([]api.Room, n)}, api.ErrLine)
	db := &api.Db{}
	for i := range n {
		db.Rooms = append(db.Rooms, api.Room{Id: i, Name: "a", Exits: [6]int{i, i, i, i, i, i}})
	}
	checks(t, "more rooms", db, api.ErrLine)
	checks(t, "all", &api.Db{
		Rooms: smallDb().Rooms, Protos: make([]api.Proto, n), Mobs: make([]api.MobProto, n),
		Recipes: make([]api.Recipe, n), Quests: make([]api.Quest, n), Shops: make([]api.Shop, n),
	}, api.ErrLine)
}
