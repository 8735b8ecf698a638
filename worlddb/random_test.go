package worlddb_test

import (
	"errors"
	"fmt"
	"math/rand"
	"slices"
	"strings"
	"testing"

	"lychgate/api"
	"lychgate/worlddb"
)

// someIds answers rising numbers, perhaps up to 1,000.
func someIds(r *rand.Rand, most int) []int {
	ids := r.Perm(1000)[:r.Intn(most+1)]
	for i := range ids {
		ids[i]++
	}
	slices.Sort(ids)
	return ids
}

func someName(r *rand.Rand) string {
	b := make([]byte, 1+r.Intn(24))
	for i := range b {
		b[i] = byte('a' + r.Intn(26))
	}
	return string(b)
}

// some answers one of these numbers; none: 0.
func some(r *rand.Rand, ids []int) int {
	if len(ids) == 0 {
		return 0
	}
	return ids[r.Intn(len(ids))]
}

// randomDb answers tables that are as they must be.
func randomDb(r *rand.Rand) *api.Db {
	db := &api.Db{}
	rooms := append(someIds(r, 58), 1000)
	rooms = slices.Compact(rooms)
	for _, id := range rooms {
		x := api.Room{Id: id, Name: someName(r), Kind: r.Intn(6), Price: r.Int63n(1<<30 + 1)}
		for i := range x.Exits {
			x.Exits[i] = some(r, append([]int{0}, rooms...))
		}
		db.Rooms = append(db.Rooms, x)
		if x.Kind == api.RShop && r.Intn(3) > 0 {
			db.Shops = append(db.Shops, api.Shop{Room: id, Till: r.Int63n(1<<30 + 1)})
		}
	}
	protos := someIds(r, 60)
	for _, id := range protos {
		db.Protos = append(db.Protos, api.Proto{Id: id, Name: someName(r), Slot: r.Intn(3), Power: r.Int63n(101), Price: r.Int63n(1<<30 + 1)})
		if r.Intn(2) > 0 {
			x := api.Recipe{Out: id}
			for range 1 + r.Intn(5) {
				x.Needs = append(x.Needs, some(r, protos))
			}
			slices.Sort(x.Needs)
			db.Recipes = append(db.Recipes, x)
		}
	}
	for _, id := range someIds(r, 60) {
		db.Mobs = append(db.Mobs, api.MobProto{Id: id, Name: someName(r), Home: some(r, rooms), Hp: 1 + r.Int63n(10000), Power: r.Int63n(101), Xp: r.Int63n(10001), Gold: r.Int63n(1<<30 + 1)})
	}
	for _, id := range someIds(r, min(60, 10*len(protos))) {
		db.Quests = append(db.Quests, api.Quest{Id: id, Item: some(r, protos), Count: 1 + r.Intn(5), Gold: r.Int63n(1<<30 + 1), Reward: some(r, append([]int{0}, protos...))})
	}
	for i := range db.Shops {
		for range r.Intn(9) {
			if id := some(r, protos); id > 0 {
				db.Shops[i].Items = append(db.Shops[i].Items, id)
			}
		}
		slices.Sort(db.Shops[i].Items)
		db.Shops[i].Items = slices.Compact(db.Shops[i].Items)
	}
	return db
}

// someFile writes tables as a file of lines in any order, with needs and items
// in any order, and remarks, blanks and ends of all kinds.
func someFile(r *rand.Rand, db *api.Db) string {
	l := textOf(db)
	r.Shuffle(len(l), func(i, j int) { l[i], l[j] = l[j], l[i] })
	pick := func(l ...string) string { return l[r.Intn(len(l))] }
	s := ""
	for _, line := range l {
		w := strings.Fields(line)
		from := map[string]int{"recipe": 2, "shop": 3}[w[0]]
		if from > 0 {
			r.Shuffle(len(w)-from, func(i, j int) { w[from+i], w[from+j] = w[from+j], w[from+i] })
		}
		s += strings.Repeat(pick("\n", "\r\n", " \n", "\t\r\n", "# remark\n", "#\r\n"), r.Intn(2))
		s += pick("", " ", "\t") + strings.Join(w, pick(" ", "\t", "  ")) + pick("", " ", "\t\t") + pick("\n", "\r\n")
	}
	if r.Intn(2) > 0 {
		s = strings.TrimSuffix(strings.TrimSuffix(s, "\n"), "\r")
	}
	return s
}

// P13.1, P13.2: what was written of tables is read as these.
func TestRandomTables(t *testing.T) {
	r := rand.New(rand.NewSource(1))
	for range 300 {
		db := randomDb(r)
		checks(t, "random", db, 0)
		parses(t, someFile(r, db), db)
	}
}

// spoil puts another number at a random place of tables.
func spoil(r *rand.Rand, db *api.Db) {
	n := some(r, []int{-1, 0, 1, 2, 5, 6, 100, 101, 1000, 1001, 10000, 10001, 1 << 30, 1<<30 + 1, 500})
	all := fields()
	f := all[r.Intn(len(all))]
	defer func() { recover() }() // There may be no such place.
	switch r.Intn(4) {
	case 0:
		db.Rooms[r.Intn(len(db.Rooms))].Id = n
	case 1:
		db.Protos[r.Intn(len(db.Protos))].Id = n
	default:
		f.set(db, int64(n))
	}
}

// P13.1, P13.2: Parse takes a file if Check takes its tables, and says the same
// of others, but for a line that is none.
func TestParseSaysWhatCheckSays(t *testing.T) {
	r := rand.New(rand.NewSource(2))
	seen := map[string]int{}
	for range 3000 {
		db := wideDb()
		if r.Intn(3) == 0 {
			db = randomDb(r)
		}
		for range r.Intn(4) {
			spoil(r, db)
		}
		text := strings.Join(textOf(db), "\n")
		got, err := worlddb.Parse(text)
		want := worlddb.Check(db)
		var e *worlddb.LineError
		switch {
		case want == nil:
			parses(t, text, db)
		case want == api.ErrNotFound:
			refuses(t, text, api.ErrNotFound)
		case errors.As(err, &e):
			noLine(t, text, e.Line)
			noLine(t, textOf(db)[e.Line-1], 1)
		case err == nil:
			// Only the order was wrong; Parse makes lists rise.
			checks(t, "sorted", got, 0)
			if show(got) == show(db) {
				t.Errorf("Check(%s): %v, but Parse takes it", show(db), want)
			}
		}
		seen[fmt.Sprint(want, e != nil)]++
	}
	if len(seen) < 4 {
		t.Errorf("not all kinds were tried: %v", seen)
	}
}

// P0.1, P13.1: whatever a text is, Parse answers: tables that Check takes, and
// that are read again, or the first line that is none, or Check's error.
func FuzzParse(f *testing.F) {
	for _, s := range append(oddWords(), "", small, strings.ReplaceAll(small, "\n", "\r\n"), "#\n\nfoo", "room 1 a plain 0 0 0 0 0 0 0", "shop 1 0 1 1\n \t\r\n") {
		f.Add(s)
	}
	f.Fuzz(func(t *testing.T, s string) {
		db, err := worlddb.Parse(s)
		var e *worlddb.LineError
		switch {
		case err == nil:
			checks(t, "parsed", db, 0)
			parses(t, strings.Join(textOf(db), "\n"), db)
		case errors.As(err, &e):
			noLine(t, s, e.Line)
			l := strings.SplitAfter(s, "\n")
			noLine(t, l[e.Line-1], 1)
			if _, err := worlddb.Parse(strings.Join(l[:e.Line-1], "")); errors.As(err, new(*worlddb.LineError)) {
				t.Errorf("Parse(%q): a line ahead of %d is none, too", s, e.Line)
			}
		default:
			want := api.Err(0)
			errors.As(err, &want)
			refuses(t, s, want)
		}
	})
}
