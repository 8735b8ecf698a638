package worlddb_test

import (
	"errors"
	"fmt"
	"strings"
	"testing"

	"lychgate/api"
	"lychgate/worlddb"
)

// small is a file with lines of each kind, in no order.
const small = `# A small world.
shop 30 500 9 4 7
room 30 smithy shop 0 0 0 10 0 0 0
mob 8 rat 10 5 2 30 6
quest 3 4 2 50 0

item 9 anvil none 0 1000
room 10 gate plain 5 30 20 0 0 1 0
recipe 9 7 4 7
item 4 cap body 1 9
 	 
room 20 cottage house 250 0 0 0 10 0 0
quest 1 7 5 0 9
# Its least room comes late.
room 1 cellar forge 0 0 0 0 0 0 10
mob 2 wolf 20 40 7 90 0
recipe 4 7
item 7 sword wield 12 80
shop 25 0
room 25 market shop 0 0 0 0 0 0 0
room 40 vault bank 0 0 0 0 0 0 0
room 41 court hall 0 40 40 40 40 40 41
`

// smallDb answers the tables that small describes.
func smallDb() *api.Db {
	return &api.Db{
		Rooms: []api.Room{
			{Id: 1, Name: "cellar", Kind: api.RForge, Exits: [6]int{5: 10}},
			{Id: 10, Name: "gate", Kind: api.RPlain, Price: 5, Exits: [6]int{30, 20, 0, 0, 1, 0}},
			{Id: 20, Name: "cottage", Kind: api.RHouse, Price: 250, Exits: [6]int{3: 10}},
			{Id: 25, Name: "market", Kind: api.RShop},
			{Id: 30, Name: "smithy", Kind: api.RShop, Exits: [6]int{2: 10}},
			{Id: 40, Name: "vault", Kind: api.RBank},
			{Id: 41, Name: "court", Kind: api.RHall, Exits: [6]int{40, 40, 40, 40, 40, 41}},
		},
		Protos: []api.Proto{
			{Id: 4, Name: "cap", Slot: api.SBody, Power: 1, Price: 9},
			{Id: 7, Name: "sword", Slot: api.SWield, Power: 12, Price: 80},
			{Id: 9, Name: "anvil", Slot: api.SNone, Power: 0, Price: 1000},
		},
		Mobs: []api.MobProto{
			{Id: 2, Name: "wolf", Home: 20, Hp: 40, Power: 7, Xp: 90, Gold: 0},
			{Id: 8, Name: "rat", Home: 10, Hp: 5, Power: 2, Xp: 30, Gold: 6},
		},
		Recipes: []api.Recipe{
			{Out: 4, Needs: []int{7}},
			{Out: 9, Needs: []int{4, 7, 7}},
		},
		Quests: []api.Quest{
			{Id: 1, Item: 7, Count: 5, Gold: 0, Reward: 9},
			{Id: 3, Item: 4, Count: 2, Gold: 50, Reward: 0},
		},
		Shops: []api.Shop{
			{Room: 25, Till: 0},
			{Room: 30, Till: 500, Items: []int{4, 7, 9}},
		},
	}
}

// leastDb has a row in each list, and the least number at each place.
func leastDb() *api.Db {
	return &api.Db{
		Rooms:   []api.Room{{Id: 1, Name: "a", Kind: api.RShop}},
		Protos:  []api.Proto{{Id: 1, Name: "z", Slot: api.SNone}},
		Mobs:    []api.MobProto{{Id: 1, Name: "m", Home: 1, Hp: 1}},
		Recipes: []api.Recipe{{Out: 1, Needs: []int{1}}},
		Quests:  []api.Quest{{Id: 1, Item: 1, Count: 1}},
		Shops:   []api.Shop{{Room: 1}},
	}
}

// greatestDb has as many rows in each list as there may be, and the greatest
// numbers and longest names and lists at each place. Its least numbers are 941.
func greatestDb() *api.Db {
	db := &api.Db{}
	for id := 941; id <= 1000; id++ {
		name := strings.Repeat(string(rune('a'+id%26)), 24)
		db.Rooms = append(db.Rooms, api.Room{Id: id, Name: name, Kind: api.RShop, Price: 1 << 30, Exits: [6]int{1000, 1000, 1000, 1000, 1000, 1000}})
		db.Protos = append(db.Protos, api.Proto{Id: id, Name: name, Slot: api.SBody, Power: 100, Price: 1 << 30})
		db.Mobs = append(db.Mobs, api.MobProto{Id: id, Name: name, Home: 1000, Hp: 10000, Power: 100, Xp: 10000, Gold: 1 << 30})
		db.Recipes = append(db.Recipes, api.Recipe{Out: id, Needs: []int{1000, 1000, 1000, 1000, 1000}})
		db.Quests = append(db.Quests, api.Quest{Id: id, Item: 1000, Count: 5, Gold: 1 << 30, Reward: 1000})
		db.Shops = append(db.Shops, api.Shop{Room: id, Till: 1 << 30, Items: []int{993, 994, 995, 996, 997, 998, 999, 1000}})
	}
	return db
}

// textOf writes tables as a file.
func textOf(db *api.Db) []string {
	var l []string
	add := func(words ...any) {
		l = append(l, strings.TrimSuffix(fmt.Sprintln(words...), "\n"))
	}
	ids := func(l []int) string {
		return strings.Trim(fmt.Sprint(l), "[]")
	}
	of := func(names []string, n int) string {
		if n < 0 || n >= len(names) {
			return "unknown"
		}
		return names[n]
	}
	for _, r := range db.Rooms {
		kind := of([]string{"plain", "shop", "bank", "forge", "house", "hall"}, r.Kind)
		add("room", r.Id, r.Name, kind, r.Price, ids(r.Exits[:]))
	}
	for _, p := range db.Protos {
		add("item", p.Id, p.Name, of([]string{"none", "wield", "body"}, p.Slot), p.Power, p.Price)
	}
	for _, m := range db.Mobs {
		add("mob", m.Id, m.Name, m.Home, m.Hp, m.Power, m.Xp, m.Gold)
	}
	for _, r := range db.Recipes {
		add("recipe", r.Out, ids(r.Needs))
	}
	for _, q := range db.Quests {
		add("quest", q.Id, q.Item, q.Count, q.Gold, q.Reward)
	}
	for _, s := range db.Shops {
		add("shop", s.Room, s.Till, ids(s.Items))
	}
	return l
}

// show writes tables so that no two others are written the same.
func show(db *api.Db) string {
	if db == nil {
		return "none"
	}
	return fmt.Sprintf("%+v", *db)
}

func parsed(t testing.TB, text string) *api.Db {
	t.Helper()
	db, err := worlddb.Parse(text)
	if err != nil || db == nil {
		t.Fatalf("Parse(%.300q): %v", text, err)
	}
	return db
}

func parses(t testing.TB, text string, want *api.Db) {
	t.Helper()
	if db, err := worlddb.Parse(text); err != nil || show(db) != show(want) {
		t.Errorf("Parse(%.300q): %.500s, %v, want %.500s", text, show(db), err, show(want))
	}
}

// noLine checks that a file's first wrong line is that one.
func noLine(t testing.TB, text string, line int) {
	t.Helper()
	db, err := worlddb.Parse(text)
	var e *worlddb.LineError
	switch {
	case !errors.As(err, &e):
		t.Errorf("Parse(%.300q): %v, want one of line %d", text, err, line)
	case db != nil || e.Line != line || e.Err != api.ErrLine:
		t.Errorf("Parse(%.300q): %.300s, %v, want one of line %d", text, show(db), err, line)
	default:
		isOnly(t, err, api.ErrLine)
	}
}

// refuses checks that all lines are such, but that Check does not take them.
func refuses(t testing.TB, text string, want api.Err) {
	t.Helper()
	db, err := worlddb.Parse(text)
	var e *worlddb.LineError
	if db != nil || errors.As(err, &e) {
		t.Errorf("Parse(%.300q): %.300s, %v, want %v", text, show(db), err, want)
	}
	isOnly(t, err, want)
}

// isOnly checks that an error wraps that one of api, and no other.
func isOnly(t testing.TB, err error, want api.Err) {
	t.Helper()
	for k := api.Err(-1); k < 20; k++ {
		if errors.Is(err, k) != (k == want) {
			t.Errorf("%v is %v: %v, but it should be %v", err, k, k != want, want)
		}
	}
	var e api.Err
	if !errors.As(err, &e) || e != want {
		t.Errorf("%v is as %v, but it should be as %v", err, e, want)
	}
}

// checks checks what Check answers; want 0: nothing is wrong.
func checks(t testing.TB, about string, db *api.Db, want api.Err) {
	t.Helper()
	err := worlddb.Check(db)
	switch {
	case want == 0 && err != nil:
		t.Errorf("%s: Check(%.500s): %v", about, show(db), err)
	case want != 0 && !errors.Is(err, want):
		t.Errorf("%s: Check(%.500s): %v, want %v", about, show(db), err, want)
	case want != 0:
		isOnly(t, err, want)
	}
}
