package render_test

import (
	"fmt"
	"math/rand"
	"regexp"
	"slices"
	"strings"
	"testing"

	"lychgate/api"
	"lychgate/render"
)

var (
	firstLetter = regexp.MustCompile(`\A[a-z]`)
	allExits    = []string{" north", " east", " south", " west", " up", " down"}
)

// model answers what is to be seen of a world, in another way than the package: by
// maps, and whole lists gone through.
type model struct {
	w     *api.World
	rooms map[int]api.Room
	kinds map[int]string
	mobs  map[int]string
	chars map[string]*api.Char
}

func newModel(w *api.World, db *api.Db) *model {
	m := &model{w: w, rooms: map[int]api.Room{}, kinds: map[int]string{}, mobs: map[int]string{}, chars: map[string]*api.Char{}}
	for _, r := range slices.Backward(db.Rooms) {
		m.rooms[r.Id] = r
	}
	for _, p := range slices.Backward(db.Protos) {
		m.kinds[p.Id] = p.Name
	}
	for _, p := range slices.Backward(db.Mobs) {
		m.mobs[p.Id] = p.Name
	}
	for i := range slices.Backward(w.Chars) {
		m.chars[w.Chars[i].Name] = &w.Chars[i]
	}
	return m
}

func capital(name string) string {
	return firstLetter.ReplaceAllStringFunc(name, strings.ToUpper)
}

// lines makes texts lines to a character that is there.
func (m *model) lines(name string, texts ...string) []api.Say {
	var l []api.Say
	for _, text := range texts {
		if m.chars[name] != nil {
			l = append(l, api.Say{To: name, Text: text})
		}
	}
	return l
}

func (m *model) room(name string) []api.Say {
	c := m.chars[name]
	if c == nil {
		return nil
	}
	r := m.rooms[c.Room]
	var exits string
	var things, mobs, others []string
	for d, word := range allExits {
		if r.Exits[d] != 0 {
			exits += word
		}
	}
	if exits == "" {
		exits = " none"
	}
	for _, x := range m.w.Things {
		if x.Room == c.Room && x.Place == 1 {
			things = append(things, fmt.Sprintf("A %s lies here.", m.kinds[x.Proto]))
		}
	}
	for _, x := range m.w.Mobs {
		if x.Room == c.Room {
			mobs = append(mobs, fmt.Sprintf("A %s is here.", m.mobs[x.Proto]))
		}
	}
	for _, x := range m.w.Chars {
		if x.On && x.Room == c.Room && x.Name != name {
			others = append(others, capital(x.Name)+" is here.")
		}
	}
	return m.lines(name, slices.Concat([]string{r.Name, "Exits:" + exits}, things, mobs, others)...)
}

func (m *model) pack(name string) []api.Say {
	var carried, worn []string
	for _, x := range m.w.Things {
		switch {
		case x.Who == name && x.Place == 2:
			carried = append(carried, m.kinds[x.Proto])
		case x.Who == name && x.Place == 3:
			worn = append(worn, m.kinds[x.Proto]+" (worn)")
		}
	}
	if carried == nil && worn == nil {
		return m.lines(name, "You carry nothing.")
	}
	return m.lines(name, slices.Concat([]string{"You carry:"}, carried, worn)...)
}

func (m *model) score(name string) []api.Say {
	c := m.chars[name]
	if c == nil {
		return nil
	}
	above := max(c.Xp, 0) / 100
	return m.lines(name, fmt.Sprintf("Level %d, %d xp, %d of %d hp, %d gold, %d in the bank.", above+1, c.Xp, c.Hp, above*5+20, c.Gold, c.Bank))
}

func (m *model) who(name string) []api.Say {
	text := "Here are:"
	for _, c := range m.w.Chars {
		if c.On {
			text += " " + capital(c.Name)
		}
	}
	return m.lines(name, text)
}

func (m *model) to(room int, but, text string) []api.Say {
	var names []string
	for _, c := range m.w.Chars {
		if c.On && c.Room == room && c.Name != but {
			names = append(names, c.Name)
		}
	}
	slices.Sort(names)
	var l []api.Say
	for _, name := range names {
		l = append(l, api.Say{To: name, Text: text})
	}
	return l
}

// pick answers one of these.
func pick[T any](r *rand.Rand, l ...T) T {
	return l[r.Intn(len(l))]
}

// crowd is a world with some of everything, kinds, rooms and places that there are
// none of, too.
func crowd(r *rand.Rand) *api.World {
	w := &api.World{Next: 1}
	room := func() int { return pick(r, 10, 10, 10, 40, 80, 90, 0, 11, -1) }
	name := func() string { return pick(r, "ann", "bob", "cid", "dan", "", "Eve", "\xff", "zoe") }
	for range r.Intn(8) {
		w.Chars = append(w.Chars, api.Char{Name: name(), On: r.Intn(3) > 0, Room: room(), Hp: r.Int63n(200), Xp: r.Int63n(3000) - 100, Gold: r.Int63(), Bank: -r.Int63()})
	}
	if r.Intn(2) == 0 {
		slices.SortFunc(w.Chars, func(a, b api.Char) int { return strings.Compare(a.Name, b.Name) })
	}
	for range r.Intn(20) {
		put(w, api.Thing{Place: pick(r, 0, 1, 1, 2, 2, 3, 3, 4, 5), Room: room(), Who: name()}, pick(r, 11, 12, 13, 14, 15, 16, 21, 0, -1))
	}
	for range r.Intn(6) {
		w.Mobs = append(w.Mobs, api.Mob{Id: w.Next, Proto: pick(r, 21, 22, 23, 24, 11, 0, -1), Room: room(), Hp: 1})
		w.Next++
	}
	return w
}

// sees holds all the functions against the model, for a name.
func sees(t testing.TB, w *api.World, db *api.Db, name string) {
	t.Helper()
	m := newModel(w, db)
	says(t, "Room", render.Room(w, db, name), m.room(name)...)
	says(t, "Pack", render.Pack(w, db, name), m.pack(name)...)
	says(t, "Score", render.Score(w, name), m.score(name)...)
	says(t, "Who", render.Who(w, name), m.who(name)...)
	for _, room := range []int{10, 40, 80, 0, 11, -1} {
		says(t, "To", render.To(w, room, name, "x\n"), m.to(room, name, "x\n")...)
	}
}

// P17.1: random worlds, held against a model.
func TestRandom(t *testing.T) {
	r := rand.New(rand.NewSource(1))
	for range 5000 {
		w, db := crowd(r), tables(t)
		for i := range db.Rooms {
			for d := range db.Rooms[i].Exits {
				db.Rooms[i].Exits[d] = pick(r, 0, 0, 10, 40, 99, -1)
			}
		}
		before := show(*w) + show(*db)
		for _, name := range []string{"ann", "bob", "cid", "dan", "", "Eve", "\xff", "zoe", "nobody"} {
			sees(t, w, db, name)
		}
		if show(*w)+show(*db) != before {
			t.Errorf("changed: %s", before)
		}
		if t.Failed() {
			t.Fatal(before)
		}
	}
}

// P0.1: lists far longer than a world may have.
func TestLong(t *testing.T) {
	const n = 60000
	w, db := &api.World{Next: 1}, tables(t)
	for k := range n {
		w.Chars = append(w.Chars, api.Char{Name: fmt.Sprintf("m%07d", k), On: k%4 < 2, Room: 10 + k%2*10})
		put(w, api.Thing{Place: []int{api.InRoom, api.Carried, api.Worn}[k%3], Room: 10, Who: "m0000000"}, 11+k%5)
		w.Mobs = append(w.Mobs, api.Mob{Id: w.Next, Proto: 21 + k%3, Room: 10})
	}
	if got := render.Room(w, db, "m0000000"); len(got) != 2+n/3+n+n/4-1 || got[len(got)-1].Text != "M0059996 is here." {
		t.Errorf("Room: %d lines", len(got))
	}
	if got := render.Pack(w, db, "m0000000"); len(got) != 1+n/3+n/3 || got[len(got)-1].Text != "pike (worn)" {
		t.Errorf("Pack: %d lines", len(got))
	}
	if got := render.Who(w, "m0000003"); len(got) != 1 || len(got[0].Text) != len("Here are:")+n/2*len(" M0000000") {
		t.Errorf("Who: %d lines", len(got))
	}
	if got := render.To(w, 20, "m0000001", "x"); len(got) != n/4-1 || got[0].To != "m0000005" || got[len(got)-1].To != "m0059997" {
		t.Errorf("To: %d lines", len(got))
	}
}

// P17.1, P0.1: anything at all.
func FuzzRender(f *testing.F) {
	f.Add(int64(1), int64(0), "ann", "gate", 10)
	f.Add(int64(2), int64(-1), "", "a\nb", 0)
	f.Add(int64(3), int64(most), "\xff", "", -1)
	f.Fuzz(func(t *testing.T, seed, n int64, name, text string, k int) {
		r := rand.New(rand.NewSource(seed))
		w, db := crowd(r), tables(t)
		w.Chars = append(w.Chars, api.Char{Name: name, On: n%2 == 0, Room: k, Xp: n, Hp: n, Gold: n, Bank: n})
		put(w, api.Thing{Place: pick(r, 1, 2, 3, k), Room: k, Who: name}, pick(r, 11, k))
		before := show(*w)
		sees(t, w, db, name)
		says(t, "To", render.To(w, k, name, text), newModel(w, db).to(k, name, text)...)
		if got := render.Dir(k); (got != "") != (0 <= k && k < 6) || got != "" && " "+got != allExits[k] {
			t.Errorf("Dir(%d): %q", k, got)
		}
		if show(*w) != before {
			t.Errorf("changed: %s", before)
		}
	})
}
