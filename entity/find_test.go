package entity_test

import (
	"fmt"
	"math"
	"slices"
	"strings"
	"testing"

	"lychgate/api"
	"lychgate/entity"
)

// placed checks a list of places.
func placed(t testing.TB, about string, got []int, want ...int) {
	t.Helper()
	if !slices.Equal(got, want) {
		t.Errorf("%s: %v, want %v", about, got, want)
	}
}

// P16.3: where a character stands, -1: none.
func TestChar(t *testing.T) {
	w := town()
	char := func(name string, want int) {
		t.Helper()
		if got := entity.Char(w, name); got != want {
			t.Errorf("Char(%q): %d, want %d", name, got, want)
		}
	}
	for k, name := range []string{"ann", "bob", "cid", "dan"} {
		char(name, k)
	}
	for _, name := range []string{"", "eve", "Ann", "ANN", "an", "anna", "ann ", " ann", "rat", "gate", "1.ann", "\xff", "\x00", strings.Repeat("a", 100000)} {
		char(name, -1)
	}
	w.Chars = w.Chars[3:]
	char("dan", 0)
	char("ann", -1)
	w.Chars = nil
	char("dan", -1)
	w.Chars = []api.Char{}
	char("", -1)
	// Lists that don't rise are gone through as well, and of several the first counts.
	w.Chars = []api.Char{{Name: "dan"}, {Name: "bob"}, {Name: "ann"}, {Name: "bob"}}
	char("ann", 2)
	char("dan", 0)
	char("bob", 1)
}

// P16.3: things in a room, rising; none, one, several.
func TestHere(t *testing.T) {
	w := town()
	placed(t, "several", entity.Here(w, 10), 0, 3)
	placed(t, "one", entity.Here(w, 40), 10)
	for _, room := range []int{20, 30, 50, 60, 0, 1, -1, -10, 11, 1000, math.MinInt, math.MaxInt} {
		placed(t, "none", entity.Here(w, room))
	}
	// What is carried, worn or in a lot is in no room, whatever stands as its room.
	for i := range w.Things {
		if w.Things[i].Place != api.InRoom {
			w.Things[i].Room = 10
		}
	}
	placed(t, "with characters", entity.Here(w, 10), 0, 3)
	w.Things = nil
	placed(t, "nil", entity.Here(w, 10))
	put(w, 40, api.Thing{Place: api.InRoom, Room: 20})
	if got := entity.Here(w, 20); len(got) != 40 || !slices.IsSorted(got) || got[39] != 39 {
		t.Errorf("many: %v", got)
	}
}

// P16.3: things with a character, carried or worn.
func TestOf(t *testing.T) {
	w := town()
	placed(t, "ann carries", entity.Of(w, "ann", api.Carried), 1, 8)
	placed(t, "ann wears", entity.Of(w, "ann", api.Worn), 4, 5)
	placed(t, "bob carries", entity.Of(w, "bob", api.Carried))
	placed(t, "bob wears", entity.Of(w, "bob", api.Worn), 7)
	placed(t, "cid carries", entity.Of(w, "cid", api.Carried), 9)
	placed(t, "cid wears", entity.Of(w, "cid", api.Worn))
	placed(t, "dan carries", entity.Of(w, "dan", api.Carried))
	placed(t, "dan wears", entity.Of(w, "dan", api.Worn))
	for _, name := range []string{"", "eve", "Ann", "an", "anna", "\xff"} {
		placed(t, name, entity.Of(w, name, api.Carried))
		placed(t, name, entity.Of(w, name, api.Worn))
	}
	for _, place := range []int{0, api.InRoom, api.InLot, 5, -1, -2, 100, math.MinInt, math.MaxInt} {
		for _, name := range []string{"", "ann", "bob", "eve"} {
			placed(t, show(place), entity.Of(w, name, place))
		}
	}
	// With a character is Carried or Worn, whatever else stands there as who has it.
	for i := range w.Things {
		w.Things[i].Who = "ann"
	}
	placed(t, "in a room", entity.Of(w, "ann", api.InRoom))
	placed(t, "in a lot", entity.Of(w, "ann", api.InLot))
	placed(t, "carried", entity.Of(w, "ann", api.Carried), 1, 8, 9)
	placed(t, "worn", entity.Of(w, "ann", api.Worn), 4, 5, 7)
	w.Things = nil
	placed(t, "nil", entity.Of(w, "ann", api.Carried))
}

// P16.3: mobiles in a room.
func TestMobs(t *testing.T) {
	w := town()
	placed(t, "several", entity.Mobs(w, 10), 0, 2)
	placed(t, "one", entity.Mobs(w, 40), 1)
	for _, room := range []int{20, 30, 50, 60, 0, 1, 21, -1, -10, 1000, math.MinInt, math.MaxInt} {
		placed(t, "none", entity.Mobs(w, room))
	}
	w.Mobs = w.Mobs[1:]
	placed(t, "the others", entity.Mobs(w, 10), 1)
	w.Mobs = nil
	placed(t, "nil", entity.Mobs(w, 10))
	w.Mobs = []api.Mob{}
	placed(t, "empty", entity.Mobs(w, 10))
}

// P16.3: characters that are On in a room.
func TestWho(t *testing.T) {
	w := town()
	placed(t, "several, one not On", entity.Who(w, 10), 0, 3)
	placed(t, "one", entity.Who(w, 40), 1)
	for _, room := range []int{20, 30, 50, 60, 0, 1, 21, -1, -10, 1000, math.MinInt, math.MaxInt} {
		placed(t, "none", entity.Who(w, room))
	}
	w.Chars[2].On = true
	placed(t, "all", entity.Who(w, 10), 0, 2, 3)
	w.Chars[0].On = false
	placed(t, "the others", entity.Who(w, 10), 2, 3)
	w.Chars[1].On = false
	placed(t, "not On", entity.Who(w, 40))
	w.Chars = nil
	placed(t, "nil", entity.Who(w, 10))
}

// finds checks what a word means.
func finds(t testing.TB, w *api.World, db *api.Db, among []int, word string, want int) {
	t.Helper()
	if got := entity.Find(w, db, among, word); got != want {
		t.Errorf("Find(%v, %.60q): %d, want %d", among, word, got, want)
	}
}

// P16.3: by a name, the first of them; what isn't among them doesn't count.
func TestFind(t *testing.T) {
	w, db := town(), tables(t)
	all := []int{0, 1, 2, 3, 4, 5, 6, 7, 8, 9, 10}
	for name, want := range map[string]int{"rag": 0, "club": 1, "gem": 2, "pike": 4, "coat": 5} {
		finds(t, w, db, all, name, want)
		finds(t, w, db, []int{want}, name, want)
		finds(t, w, db, nil, name, -1)
		finds(t, w, db, []int{}, name, -1)
	}
	finds(t, w, db, entity.Here(w, 10), "rag", 0)
	finds(t, w, db, entity.Here(w, 10), "club", -1)
	finds(t, w, db, entity.Here(w, 40), "club", 10)
	finds(t, w, db, entity.Of(w, "ann", api.Carried), "club", 1)
	finds(t, w, db, entity.Of(w, "ann", api.Worn), "club", -1)
	finds(t, w, db, entity.Of(w, "bob", api.Worn), "club", 7)
	finds(t, w, db, entity.Of(w, "dan", api.Carried), "club", -1)
	// The first is that of the list that was handed in.
	finds(t, w, db, []int{9, 7, 1}, "club", 9)
	finds(t, w, db, []int{9, 7, 1}, "2.club", 7)
	finds(t, w, db, []int{9, 7, 1}, "3.club", 1)
	finds(t, w, db, []int{2, 6, 3, 0}, "rag", 6)
}

// P16.3: N.name: the N-th, the last that there is, and one more.
func TestFindNth(t *testing.T) {
	w, db := town(), tables(t)
	all := []int{0, 1, 2, 3, 4, 5, 6, 7, 8, 9, 10}
	for k, want := range []int{0, 3, 6, -1, -1, -1} {
		finds(t, w, db, all, fmt.Sprintf("%d.rag", k+1), want)
	}
	for k, want := range []int{1, 7, 8, 9, 10, -1} {
		finds(t, w, db, all, fmt.Sprintf("%d.club", k+1), want)
	}
	finds(t, w, db, all, "1.gem", 2)
	finds(t, w, db, all, "2.gem", -1)
	finds(t, w, db, all, "99.gem", -1)
	finds(t, w, db, entity.Of(w, "ann", api.Carried), "2.club", 8)
	finds(t, w, db, entity.Of(w, "ann", api.Carried), "3.club", -1)
}

// P16.3: N from 1 to 99, of more than that.
func TestFindMany(t *testing.T) {
	w, db := entity.New(tables(t)), tables(t)
	var among []int
	for k := range 300 {
		put(w, 1, api.Thing{Proto: []int{11, 12}[k%2], Place: api.InRoom, Room: 10})
		among = append(among, k)
	}
	for n := range 300 {
		rag, club := -1, -1
		if 1 <= n && n <= 99 {
			rag, club = 2*n-2, 2*n-1
		}
		finds(t, w, db, among, fmt.Sprintf("%d.rag", n), rag)
		finds(t, w, db, among, fmt.Sprintf("%d.club", n), club)
	}
	finds(t, w, db, among[:198], "99.rag", 196)
	finds(t, w, db, among[:196], "99.rag", -1)
	for _, number := range []string{
		"100", "101", "999", "1099511627776", "1099511627777", "9223372036854775807", "9223372036854775808", "18446744073709551616", "18446744073709551617", strings.Repeat("9", 1000),
		"0", "00", "01", "02", "001", "-1", "-0", "+1", "+", "-", "1 ", " 1", "1\t", "1,", "1e0", "0x1", "1_0", "one", "a", "rag", "é", "\xff", "\x00", "١", "１", "1.", "1.1", ".", "..",
	} {
		finds(t, w, db, among, number+".rag", -1)
	}
}

// P16.3: words that are none.
func TestFindWrongWords(t *testing.T) {
	w, db := town(), tables(t)
	all := []int{0, 1, 2, 3, 4, 5, 6, 7, 8, 9, 10}
	for _, word := range []string{
		"", ".", "..", "...", ".rag", "..rag", "rag.", "1.", "1..", "1", "99", "0", "1.rag.", "1..rag", "1.1.rag", "1.2.rag", "rag.1", "rag.rag", "1.rag.1",
		"Rag", "RAG", "1.Rag", "ra", "rags", "1.ra", "1.rags", " rag", "rag ", "1. rag", "1.rag ", "1 .rag", "1 rag", "r ag", "rag\n", "rag\x00", "\x00", "\xff", "\xff.rag", "1.\xff", "rág", "ragé",
		"11", "1.11", "rat", "gate", "ann", "nothing", strings.Repeat("rag", 100000), strings.Repeat(".", 100000), strings.Repeat("1.", 100000) + "rag",
	} {
		finds(t, w, db, all, word, -1)
	}
	// No kind has such names, but in tables that Check does not take.
	db.Protos = append(db.Protos, api.Proto{Id: 99, Name: "rat"})
	finds(t, w, db, all, "rat", -1)
}

// P16.3, P0.1: places below 0 or beyond the list are none of these things.
func TestFindWrongPlaces(t *testing.T) {
	w, db := town(), tables(t)
	wrong := []int{-1, -2, -11, 11, 12, 99, 1000, math.MinInt, math.MaxInt, math.MinInt64 + 1, math.MaxInt - 1}
	finds(t, w, db, wrong, "rag", -1)
	for _, i := range wrong {
		finds(t, w, db, []int{i}, "rag", -1)
		finds(t, w, db, []int{i}, "1.rag", -1)
		finds(t, w, db, []int{i, 3, i, 0, i}, "rag", 3)
		finds(t, w, db, []int{i, 3, i, 0, i}, "2.rag", 0)
		finds(t, w, db, []int{i, 3, i, 0, i}, "3.rag", -1)
	}
	finds(t, w, db, []int{10}, "club", 10)
	finds(t, w, db, []int{0}, "rag", 0)
	w.Things = nil
	finds(t, w, db, []int{-1, 0, 1}, "rag", -1)
}

// P16.3, P0.1: kinds that there are none of, and no tables at all.
func TestFindWithoutKinds(t *testing.T) {
	w := town()
	all := []int{0, 1, 2, 3, 4, 5, 6, 7, 8, 9, 10}
	for _, word := range []string{"rag", "1.rag", "", "1.", "."} {
		finds(t, w, nil, all, word, -1)
		finds(t, w, &api.Db{}, all, word, -1)
		finds(t, nil, tables(t), all, word, -1)
		finds(t, nil, nil, all, word, -1)
		finds(t, &api.World{}, tables(t), all, word, -1)
	}
	for _, kind := range []int{0, -1, 99, math.MinInt, math.MaxInt} {
		w.Things[0].Proto = kind
		finds(t, w, tables(t), all, "rag", 3)
		finds(t, w, tables(t), all, "", -1)
		finds(t, w, tables(t), all, "1.", -1)
	}
}

// P16.3, P0.1: no world.
func TestNoWorld(t *testing.T) {
	for _, w := range []*api.World{nil, {}, {Chars: []api.Char{}, Things: []api.Thing{}, Mobs: []api.Mob{}}} {
		if got := entity.Char(w, "ann"); got != -1 {
			t.Errorf("Char: %d", got)
		}
		for _, n := range []int{0, 1, 10, -1, math.MinInt, math.MaxInt} {
			placed(t, "Here", entity.Here(w, n))
			placed(t, "Of", entity.Of(w, "ann", n))
			placed(t, "Of", entity.Of(w, "", n))
			placed(t, "Mobs", entity.Mobs(w, n))
			placed(t, "Who", entity.Who(w, n))
		}
	}
}

// P0.3: those that only look change nothing, and what they answer is new memory.
func TestLooking(t *testing.T) {
	w, db := roomyTown(), tables(t)
	spare := spareOfTown(w)
	among := roomy([]int{3, -1, 0, 99}, 77)
	look := func() []string {
		lists := [][]int{entity.Here(w, 10), entity.Here(w, 10), entity.Of(w, "ann", api.Carried), entity.Of(w, "ann", api.Worn), entity.Mobs(w, 10), entity.Who(w, 10), entity.Who(w, 10)}
		var l []string
		for _, x := range lists {
			l = append(l, show(x))
			fill(x, -7)
		}
		return append(l, show(entity.Find(w, db, among, "rag")), show(entity.Find(w, db, among, "2.rag")), show(entity.Char(w, "bob")), show(entity.May(w, db)), show(entity.Start(db)))
	}
	first := look()
	if second := look(); !slices.Equal(first, second) {
		t.Errorf("%v, then %v", first, second)
	}
	same(t, "the world", w, town())
	same(t, "its spare room", spareOfTown(w), spare)
	same(t, "the tables", db, tables(t))
	same(t, "the list", show(among)+show(spareOf(among)), "[3 -1 0 99]"+show(spareOf(roomy([]int{3, -1, 0, 99}, 77))))
}
