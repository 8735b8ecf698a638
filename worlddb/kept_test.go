package worlddb_test

import (
	"fmt"
	"strings"
	"testing"
	"unsafe"

	"lychgate/api"
	"lychgate/worlddb"
)

// roomy answers a copy of a list with spare room that is full of something.
func roomy[T any](l []T, x T) []T {
	all := make([]T, len(l)+3)
	for i := range all {
		all[i] = x
	}
	copy(all, l)
	return all[:len(l)]
}

// roomyDb gives all lists of tables spare room.
func roomyDb(db *api.Db) *api.Db {
	for i := range db.Recipes {
		db.Recipes[i].Needs = roomy(db.Recipes[i].Needs, 77)
	}
	for i := range db.Shops {
		db.Shops[i].Items = roomy(db.Shops[i].Items, 77)
	}
	return &api.Db{
		Rooms:   roomy(db.Rooms, api.Room{Id: 7, Name: "spare"}),
		Protos:  roomy(db.Protos, api.Proto{Id: 7, Name: "spare"}),
		Mobs:    roomy(db.Mobs, api.MobProto{Id: 7, Name: "spare"}),
		Recipes: roomy(db.Recipes, api.Recipe{Out: 7, Needs: []int{7}}),
		Quests:  roomy(db.Quests, api.Quest{Id: 7, Item: 7}),
		Shops:   roomy(db.Shops, api.Shop{Room: 7, Items: []int{7}}),
	}
}

// wide writes all lists of tables with their spare room.
func wide(db *api.Db) string {
	s := fmt.Sprint(db.Rooms[:cap(db.Rooms)], db.Protos[:cap(db.Protos)], db.Mobs[:cap(db.Mobs)], db.Quests[:cap(db.Quests)])
	for _, r := range db.Recipes[:cap(db.Recipes)] {
		s += fmt.Sprint(" recipe ", r.Out, r.Needs[:cap(r.Needs)])
	}
	for _, x := range db.Shops[:cap(db.Shops)] {
		s += fmt.Sprint(" shop ", x.Room, x.Till, x.Items[:cap(x.Items)])
	}
	return s
}

func scribble[T any](l []T, x T) {
	l = l[:cap(l)]
	for i := range l {
		l[i] = x
	}
}

// scribbleDb writes over all of tables, spare room too.
func scribbleDb(db *api.Db) {
	for _, r := range db.Recipes {
		scribble(r.Needs, 99)
	}
	for _, s := range db.Shops {
		scribble(s.Items, 99)
	}
	scribble(db.Rooms, api.Room{Id: 99, Name: "scribbled"})
	scribble(db.Protos, api.Proto{Id: 99, Name: "scribbled"})
	scribble(db.Mobs, api.MobProto{Id: 99, Name: "scribbled"})
	scribble(db.Recipes, api.Recipe{Out: 99})
	scribble(db.Quests, api.Quest{Id: 99})
	scribble(db.Shops, api.Shop{Room: 99})
	*db = api.Db{}
}

// P0.3: what Parse answers is new memory.
func TestParseAnswersNewMemory(t *testing.T) {
	for _, text := range []string{small, strings.Join(textOf(greatestDb()), "\n")} {
		one, two := parsed(t, text), parsed(t, text)
		want := show(two)
		scribbleDb(one)
		parses(t, text, two)
		if show(two) != want {
			t.Errorf("another answer became %.300s", show(two))
		}
	}
}

// P0.3: no two lists of one answer share memory.
func TestListsShareNothing(t *testing.T) {
	text := strings.Join(textOf(greatestDb()), "\n")
	for i := range 60 {
		db := parsed(t, text)
		scribble(db.Recipes[i].Needs, 99)
		scribble(db.Shops[i].Items, 99)
		want := greatestDb()
		scribble(want.Recipes[i].Needs, 99)
		scribble(want.Shops[i].Items, 99)
		if show(db) != show(want) {
			t.Errorf("a list shares memory with that of row %d", i)
		}
	}
}

// P0.3: names are no pieces of the text, which would keep all of it.
func TestNamesAreNew(t *testing.T) {
	text := strings.Clone(small)
	from := uintptr(unsafe.Pointer(unsafe.StringData(text)))
	is := func(name string) {
		t.Helper()
		if at := uintptr(unsafe.Pointer(unsafe.StringData(name))); from <= at && at < from+uintptr(len(text)) {
			t.Errorf("%s is a piece of the text", name)
		}
	}
	db := parsed(t, text)
	for _, r := range db.Rooms {
		is(r.Name)
	}
	for _, p := range db.Protos {
		is(p.Name)
	}
	for _, m := range db.Mobs {
		is(m.Name)
	}
}

// P0.3, P0.5: tables that are handed in stay as they are, spare room too, and
// what is answered doesn't hang on that.
func TestTablesStay(t *testing.T) {
	turns := missing()
	for about, turn := range wrong() {
		turns["wrong: "+about] = turn
	}
	turns["nothing"] = func(db *api.Db) {}
	for about, turn := range turns {
		plain := smallDb()
		turn(plain)
		want := worlddb.Check(plain)
		small := smallDb()
		turn(small)
		db := roomyDb(small)
		before := wide(db)
		for range 2 {
			if err := worlddb.Check(db); err != want {
				t.Errorf("%s: Check: %v, want %v", about, err, want)
			}
			for id := -1; id < 50; id++ {
				r, ok := worlddb.Room(plain, id)
				hasRoom(t, db, id, r, ok)
				p, ok := worlddb.Proto(plain, id)
				hasProto(t, db, id, p, ok)
				m, ok := worlddb.Mob(plain, id)
				hasMob(t, db, id, m, ok)
			}
		}
		if wide(db) != before {
			t.Errorf("%s: the tables became %.500s", about, wide(db))
		}
	}
}

// P0.5: nothing is kept from call to call.
func TestNothingIsKept(t *testing.T) {
	for range 3 {
		parses(t, small, smallDb())
		noLine(t, small+"foo", 23)
		refuses(t, small+"room 1 a plain 0 0 0 0 0 0 0", api.ErrLine)
		refuses(t, "", api.ErrLine)
		checks(t, "small", smallDb(), 0)
		checks(t, "nil", nil, api.ErrLine)
	}
}
