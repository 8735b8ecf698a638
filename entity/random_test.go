package entity_test

import (
	"math"
	"math/rand"
	"regexp"
	"slices"
	"strconv"
	"strings"
	"testing"

	"lychgate/api"
	"lychgate/entity"
	"lychgate/worlddb"
)

var (
	nameForm = regexp.MustCompile(`\A[a-z]{2,12}\z`)
	hashForm = regexp.MustCompile(`\A[0-9a-f]{64}\z`)
	wordForm = regexp.MustCompile(`\A(?:([1-9][0-9]?)\.)?([a-z]{1,24})\z`)
)

// faults tells what keeps a world from being one of these tables, in another way
// than May: by maps, and all of it.
type faults struct {
	w     *api.World
	rooms map[int]api.Room
	kinds map[int]api.Proto
	mobs  map[int]api.MobProto
	chars map[string]api.Char
	seen  map[int64]int
	l     []string
}

func faultsOf(w *api.World, db *api.Db) []string {
	f := &faults{w: w, rooms: map[int]api.Room{}, kinds: map[int]api.Proto{}, mobs: map[int]api.MobProto{}, chars: map[string]api.Char{}, seen: map[int64]int{}}
	for _, r := range db.Rooms {
		f.rooms[r.Id] = r
	}
	for _, p := range db.Protos {
		f.kinds[p.Id] = p
	}
	for _, m := range db.Mobs {
		f.mobs[m.Id] = m
	}
	for _, c := range w.Chars {
		f.chars[c.Name] = c
	}
	f.lists()
	f.characters(db)
	f.things()
	f.mobiles()
	f.houses()
	f.lots()
	f.gold(db)
	return f.l
}

// must notes what is not so.
func (f *faults) must(is bool, about string) {
	if !is {
		f.l = append(f.l, about)
	}
}

func (f *faults) room(id int) {
	_, ok := f.rooms[id]
	f.must(ok, "a room")
}

func (f *faults) name(s string) {
	_, ok := f.chars[s]
	f.must(ok, "a name")
}

// money tells of one place's gold (or of points).
func (f *faults) money(n int64) {
	f.must(0 <= n && n <= 1<<40, "gold")
}

// lists tells of all numbers, of order and of clocks.
func (f *faults) lists() {
	w := f.w
	f.must(len(f.chars) == len(w.Chars) && slices.IsSortedFunc(w.Chars, func(a, b api.Char) int { return strings.Compare(a.Name, b.Name) }), "characters rise")
	var rooms, tills []int
	for _, h := range w.Houses {
		rooms = append(rooms, h.Room)
	}
	for _, x := range w.Tills {
		tills = append(tills, x.Room)
	}
	for _, l := range [][]int{rooms, tills} {
		f.must(slices.IsSorted(l) && len(slices.Compact(slices.Clone(l))) == len(l), "rooms rise")
	}
	var things, mobs, lots []int64
	for _, x := range w.Things {
		things = append(things, x.Id)
	}
	for _, x := range w.Mobs {
		mobs = append(mobs, x.Id)
	}
	for _, x := range w.Lots {
		lots = append(lots, x.Id)
	}
	for _, l := range [][]int64{things, mobs, lots} {
		f.must(slices.IsSorted(l), "numbers rise")
		for _, id := range l {
			f.must(id >= 1 && id <= w.Next-1, "a number")
			f.must(f.seen[id] == 0, "apart")
			f.seen[id]++
		}
	}
	f.must(w.Now >= 0 && w.Now <= 1125899906842624, "Now")
	f.must(w.Next >= 1 && w.Next <= 1125899906842624, "Next")
	f.must(len(w.Chars) <= 24 && len(things) <= 200 && len(lots) <= 10, "bounds")
}

func (f *faults) characters(db *api.Db) {
	for _, c := range f.w.Chars {
		f.must(nameForm.MatchString(c.Name), "a name's letters")
		f.must(hashForm.MatchString(c.Hash), "a hash")
		f.room(c.Room)
		f.money(c.Gold)
		f.money(c.Bank)
		f.money(c.Xp)
		most := int64(20)
		if c.Xp > 0 {
			most += c.Xp / 100 * 5
		}
		f.must(c.Hp >= 1 && c.Hp <= most, "lives")
		if c.Foe != 0 {
			i := slices.IndexFunc(f.w.Mobs, func(m api.Mob) bool { return m.Id == c.Foe })
			f.must(c.On && i >= 0 && f.w.Mobs[max(i, 0)].Room == c.Room, "a foe")
		}
		last := math.MinInt
		for _, id := range c.Done {
			f.must(id > last && slices.ContainsFunc(db.Quests, func(q api.Quest) bool { return q.Id == id }), "done")
			last = id
		}
	}
}

func (f *faults) things() {
	here, with, slots := map[int]int{}, map[string]int{}, map[string]int{}
	for _, x := range f.w.Things {
		p, ok := f.kinds[x.Proto]
		f.must(ok, "a kind")
		var named int
		for _, l := range f.w.Lots {
			if l.Thing == x.Id {
				named++
			}
		}
		switch x.Place {
		case 1:
			here[x.Room]++
			f.room(x.Room)
			f.must(x.Who == "" && named == 0, "in a room")
		case 2, 3:
			with[x.Who]++
			f.name(x.Who)
			f.must(x.Room == 0 && named == 0, "with one")
		case 4:
			f.must(x.Room == 0 && x.Who == "" && named == 1, "in a lot")
		default:
			f.must(false, "a place")
		}
		if x.Place == 3 {
			at := x.Who + strconv.Itoa(p.Slot)
			f.must(p.Slot > 0 && slots[at] == 0, "worn")
			slots[at]++
		}
	}
	for _, n := range here {
		f.must(n <= 30, "in one room")
	}
	for _, n := range with {
		f.must(n <= 10, "with one")
	}
}

func (f *faults) mobiles() {
	for _, m := range f.w.Mobs {
		p, ok := f.mobs[m.Proto]
		f.must(ok && m.Hp >= 1 && m.Hp <= p.Hp, "a mobile")
		f.room(m.Room)
	}
}

func (f *faults) houses() {
	for _, h := range f.w.Houses {
		f.must(f.rooms[h.Room].Kind == 4, "a house")
		f.name(h.Owner)
		f.must(!slices.Contains(h.Guests, h.Owner), "the owner a guest")
		f.must(slices.IsSorted(h.Guests) && len(slices.Compact(slices.Clone(h.Guests))) == len(h.Guests), "guests rise")
		for _, g := range h.Guests {
			f.name(g)
		}
	}
}

func (f *faults) lots() {
	for _, l := range f.w.Lots {
		f.must(slices.ContainsFunc(f.w.Things, func(x api.Thing) bool { return x.Id == l.Thing && x.Place == 4 }), "a lot's thing")
		f.name(l.Seller)
		f.must(l.Min > 0 && l.Ends > f.w.Now, "a lot")
		switch {
		case l.Bidder == "":
			f.must(l.Bid == 0, "a bid by nobody")
		default:
			f.name(l.Bidder)
			f.must(l.Bid >= l.Min, "a bid")
		}
	}
}

func (f *faults) gold(db *api.Db) {
	var shops, tills []int
	var total int64
	for _, s := range db.Shops {
		shops = append(shops, s.Room)
	}
	for _, x := range f.w.Tills {
		tills = append(tills, x.Room)
		f.money(x.Gold)
		total += x.Gold
	}
	for _, c := range f.w.Chars {
		total += c.Gold + c.Bank
	}
	for _, h := range f.w.Houses {
		f.money(h.Chest)
		total += h.Chest
	}
	for _, l := range f.w.Lots {
		f.money(l.Bid)
		total += l.Bid
	}
	f.must(slices.Equal(shops, tills), "tills")
	f.must(total == f.w.Minted, "minted")
}

// pick answers one of these.
func pick[T any](r *rand.Rand, l ...T) T {
	return l[r.Intn(len(l))]
}

// bump changes a number a little, or to one of these.
func bump[N int | int64](r *rand.Rand, n *N, l ...N) {
	*n = pick(r, append(l, *n-1, *n+1, *n)...)
}

// turn changes some one field of a world.
func turn(r *rand.Rand, w *api.World) {
	c, x, m, h, l := &w.Chars[r.Intn(len(w.Chars))], &w.Things[r.Intn(len(w.Things))], &w.Mobs[r.Intn(len(w.Mobs))], &w.Houses[r.Intn(len(w.Houses))], &w.Lots[r.Intn(len(w.Lots))]
	who := pick(r, "ann", "bob", "cid", "dan", "", "eve")
	room := pick(r, 10, 20, 40, 50, 55, 60, 0, 11)
	switch r.Intn(32) {
	case 0:
		bump(r, &w.Now, 0, 120, 1<<50)
	case 1:
		bump(r, &w.Next, 41, 50, 51, 1<<50)
	case 2:
		bump(r, &w.Minted)
	case 3:
		c.Name = pick(r, "ann", "bob", "boo", "cid", "cidd", "dan", "eve", "Dan", "d")
	case 4:
		c.Hash = pick(r, hash, hash[1:], hash+"0", strings.ToUpper(hash), strings.Repeat("f", 64))
	case 5:
		c.On = !c.On
	case 6:
		c.Room = room
	case 7:
		bump(r, &c.Hp, 0, 1, 20, 25, 27)
	case 8:
		bump(r, &c.Xp, 0, 100, 1<<40)
	case 9:
		bump(r, &c.Gold, 0, 1<<40)
		mint(w)
	case 10:
		bump(r, &c.Bank, 0, 1<<40)
		mint(w)
	case 11:
		bump(r, &c.Foe, 0, 1, 2, 9)
	case 12:
		c.Done = pick(r, []int{31}, []int{31, 33}, []int{33, 31}, []int{34}, nil, []int{32, 32})
	case 13:
		bump(r, &x.Id, 6, 10, 23)
	case 14:
		x.Proto = pick(r, 11, 12, 13, 14, 15, 16, 0)
	case 15:
		x.Place = pick(r, 0, 1, 2, 3, 4, 5)
	case 16:
		x.Room = pick(r, room, 0)
	case 17:
		x.Who = pick(r, who, "")
	case 18:
		bump(r, &m.Id, 3, 10)
	case 19:
		m.Proto = pick(r, 21, 22, 23, 24)
	case 20:
		m.Room = room
	case 21:
		bump(r, &m.Hp, 1, 5, 60)
	case 22:
		h.Room = room
	case 23:
		h.Owner = who
	case 24:
		h.Guests = pick(r, nil, []string{who}, []string{"bob", who}, []string{who, "dan"})
	case 25:
		bump(r, &h.Chest, 0, 1<<40)
		mint(w)
	case 26:
		bump(r, &l.Id, 23, 60)
	case 27:
		l.Thing = pick[int64](r, 8, 21, 5, 0)
	case 28:
		l.Seller, l.Bidder = pick(r, who, l.Seller), pick(r, who, l.Bidder)
	case 29:
		bump(r, &l.Min, 0, 1, 9, 10)
	case 30:
		bump(r, &l.Bid, 0, 5, 1<<40)
		mint(w)
	case 31:
		bump(r, &l.Ends, 100, 101)
	}
}

// carry moves a thing to a place with all that belongs to it.
func carry(r *rand.Rand, w *api.World) {
	x := &w.Things[r.Intn(len(w.Things))]
	switch r.Intn(3) {
	case 0:
		x.Place, x.Room, x.Who = api.InRoom, pick(r, 10, 20, 60), ""
	case 1:
		x.Place, x.Room, x.Who = api.Carried, 0, pick(r, "ann", "bob", "cid", "dan")
	case 2:
		x.Place, x.Room, x.Who, x.Proto = api.Worn, 0, pick(r, "ann", "bob", "cid", "dan"), pick(r, 12, 13, 15, 11)
	}
}

// P16.2: random worlds near ones that May, held against a model.
func TestMayRandom(t *testing.T) {
	r := rand.New(rand.NewSource(1))
	db := tables(t)
	yes, no := 0, 0
	for range 30000 {
		w := town()
		for range r.Intn(4) {
			if r.Intn(4) == 0 {
				carry(r, w)
			} else {
				turn(r, w)
			}
		}
		put(w, pick(r, 0, 0, 7, 8), api.Thing{Proto: 11, Place: api.Carried, Who: pick(r, "ann", "bob", "cid", "dan")})
		put(w, pick(r, 0, 0, 27, 28), api.Thing{Proto: 11, Place: api.InRoom, Room: pick(r, 10, 20)})
		f := faultsOf(w, db)
		if entity.May(w, db) != (len(f) == 0) {
			t.Fatalf("%v, but %q: %s", entity.May(w, db), f, show(w))
		}
		if len(f) == 0 {
			yes++
		} else {
			no++
		}
	}
	if yes < 3000 || no < 3000 {
		t.Errorf("%d may, %d may not: a poor choice of worlds", yes, no)
	}
}

// modelFind reads a word by a pattern, and makes a list of all that it may mean.
func modelFind(w *api.World, db *api.Db, among []int, word string) int {
	parts := wordForm.FindStringSubmatch(word)
	if parts == nil {
		return -1
	}
	n := 1
	if parts[1] != "" {
		n, _ = strconv.Atoi(parts[1])
	}
	var l []int
	for _, i := range among {
		if i < 0 || i > len(w.Things)-1 {
			continue
		}
		for _, p := range db.Protos {
			if p.Id == w.Things[i].Proto && p.Name == parts[2] {
				l = append(l, i)
			}
		}
	}
	if n > len(l) {
		return -1
	}
	return l[n-1]
}

// P16.3: random lists and words, held against a model.
func TestFindRandom(t *testing.T) {
	r := rand.New(rand.NewSource(2))
	db := tables(t)
	for range 3000 {
		w := entity.New(db)
		for range r.Intn(30) {
			put(w, 1, api.Thing{Proto: pick(r, 11, 11, 12, 13, 15, 16, 0), Place: api.InRoom, Room: 10})
		}
		var among []int
		for range r.Intn(40) {
			among = append(among, r.Intn(34)-2)
		}
		for range 30 {
			word := pick(r, "", "1.", "2.", "3.", "9.", "99.", "100.", "0.", "01.", ".", "1.1.", "x") + pick(r, "rag", "rag", "club", "pike", "gem", "Rag", "", "rags", "rag.")
			finds(t, w, db, among, word, modelFind(w, db, among, word))
		}
	}
}

// P16.1 to P16.3, P0.1: anything at all: what only looks changes nothing, what is
// made and dropped leaves the world as it was, and Copy is the same.
func FuzzEntity(f *testing.F) {
	f.Add(int64(1), int64(10), "rag", "ann", 11)
	f.Add(int64(2), int64(-1), "2.club", "", 0)
	f.Add(int64(3), int64(math.MaxInt64), "\xff", "1.1", -1)
	f.Fuzz(func(t *testing.T, seed, n int64, word, name string, k int) {
		r := rand.New(rand.NewSource(seed))
		db, w := tables(t), town()
		for range r.Intn(4) {
			turn(r, w)
		}
		*pick(r, &w.Next, &w.Now, &w.Chars[0].Xp, &w.Chars[0].Hp, &w.Lots[0].Min, &w.Mobs[0].Hp) = n
		*pick(r, &w.Things[0].Who, &w.Chars[3].Name, &w.Lots[0].Bidder, &w.Chars[1].Hash) = name
		*pick(r, &w.Things[1].Place, &w.Things[1].Proto, &w.Things[1].Room, &w.Mobs[0].Room, &w.Houses[0].Room) = k
		before := show(w)
		if entity.May(w, db) != (len(faultsOf(w, db)) == 0) || worlddb.Check(db) != nil {
			t.Fatalf("May: %v, but %q: %s", entity.May(w, db), faultsOf(w, db), before)
		}
		all := append(entity.Here(w, k), entity.Of(w, name, k)...)
		all = append(all, k, int(n), 0, 3, 1)
		finds(t, w, db, all, word, modelFind(w, db, all, word))
		if i := entity.Char(w, name); i >= 0 && w.Chars[i].Name != name {
			t.Errorf("Char(%q): %d", name, i)
		}
		entity.Mobs(w, k)
		entity.Who(w, k)
		if entity.Level(n)*5+15 != entity.MaxHp(n) {
			t.Errorf("Level(%d): %d, MaxHp %d", n, entity.Level(n), entity.MaxHp(n))
		}
		same(t, "the world", w, before)
		same(t, "a copy", entity.Copy(w), before)
		next := w.Next
		if entity.Make(w, k, api.Thing{Place: k, Who: name}) && !slices.ContainsFunc(w.Things[:len(w.Things)-1], func(t api.Thing) bool { return t.Id == next }) {
			if !entity.Drop(w, next) || w.Next != next+1 {
				t.Error("Drop")
			}
			w.Next = next
			same(t, "made and dropped", w, before)
		}
	})
}
