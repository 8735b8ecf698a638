package entity

import (
	"cmp"
	"slices"

	"lychgate/api"
	"lychgate/gold"
	"lychgate/lines"
	"lychgate/worlddb"
)

const (
	leastName = 2 // letters
	mostName  = 12
	hashBytes = 64
	mostTime  = 1 << 50 // of Now, and of Next
	mostXp    = 1 << 40
)

// May tells whether w is a world of db. Of tables that Check does not take there
// is none: what the layers above make of one by them need not be a world again.
func May(w *api.World, db *api.Db) bool {
	return w != nil && worlddb.Check(db) == nil &&
		hasBounds(w) && hasOrder(w) && hasNumbers(w) &&
		all(w.Chars, func(c api.Char) bool { return isChar(w, db, c) }) &&
		all(w.Things, func(t api.Thing) bool { return isThing(w, db, t) }) &&
		all(w.Mobs, func(m api.Mob) bool { return isMob(db, m) }) &&
		all(w.Houses, func(h api.House) bool { return isHouse(w, db, h) }) &&
		all(w.Lots, func(l api.Lot) bool { return isLot(w, l) }) &&
		all(db.Rooms, func(r api.Room) bool { return len(Here(w, r.Id)) <= api.MaxHere }) &&
		slices.EqualFunc(w.Tills, db.Shops, isTill) &&
		gold.Total(w) == w.Minted
}

// hasBounds tells whether clock, numbers and lists are within their bounds.
func hasBounds(w *api.World) bool {
	return within(w.Now, 0, mostTime) && within(w.Next, 1, mostTime) &&
		len(w.Chars) <= api.MaxChars && len(w.Things) <= api.MaxThings && len(w.Lots) <= api.MaxLots
}

// hasOrder tells whether the lists rise; of the tills' list isTill tells it.
func hasOrder(w *api.World) bool {
	return rises(w.Chars, func(c api.Char) string { return c.Name }) &&
		rises(w.Things, thingId) && rises(w.Mobs, mobId) && rises(w.Lots, lotId) &&
		rises(w.Houses, func(h api.House) int { return h.Room })
}

// hasNumbers tells whether all numbers were given out, and none twice.
func hasNumbers(w *api.World) bool {
	ids := slices.Concat(idsOf(w.Things, thingId), idsOf(w.Mobs, mobId), idsOf(w.Lots, lotId))
	slices.Sort(ids)
	return rises(ids, same[int64]) && all(ids, func(id int64) bool { return 0 < id && id < w.Next })
}

func idsOf[T any](l []T, idOf func(x T) int64) []int64 {
	var ids []int64
	for _, x := range l {
		ids = append(ids, idOf(x))
	}
	return ids
}

func isChar(w *api.World, db *api.Db, c api.Char) bool {
	return isName(c.Name) && isHash(c.Hash) && hasRoom(db, c.Room) &&
		isGold(c.Gold) && isGold(c.Bank) && within(c.Xp, 0, mostXp) && within(c.Hp, 1, MaxHp(c.Xp)) &&
		(c.Foe == 0 || c.On && isMobIn(w, c.Foe, c.Room)) &&
		rises(c.Done, same[int]) && all(c.Done, func(id int) bool { return hasQuest(db, id) }) &&
		len(Of(w, c.Name, api.Carried))+len(Of(w, c.Name, api.Worn)) <= api.MaxCarry &&
		isDressed(w, db, c.Name)
}

// isDressed tells whether one wears only what has a slot, and in each slot one
// thing at most.
func isDressed(w *api.World, db *api.Db, name string) bool {
	var slots []int
	for _, i := range Of(w, name, api.Worn) {
		p, _ := worlddb.Proto(db, w.Things[i].Proto)
		slots = append(slots, p.Slot)
	}
	slices.Sort(slots)
	return rises(slots, same[int]) && !slices.Contains(slots, api.SNone)
}

func isThing(w *api.World, db *api.Db, t api.Thing) bool {
	_, ok := worlddb.Proto(db, t.Proto)
	switch t.Place {
	case api.InRoom:
		return ok && t.Who == "" && hasRoom(db, t.Room)
	case api.Carried, api.Worn:
		return ok && isThere(w, t.Who) && t.Room == 0
	case api.InLot:
		return ok && t.Who == "" && t.Room == 0 && lotsOf(w, t.Id) == 1
	}
	return false
}

// lotsOf answers how many lots name that thing.
func lotsOf(w *api.World, thing int64) int {
	return len(places(w.Lots, func(l api.Lot) bool { return l.Thing == thing }))
}

func isMob(db *api.Db, m api.Mob) bool {
	p, ok := worlddb.Mob(db, m.Proto)
	return ok && hasRoom(db, m.Room) && within(m.Hp, 1, p.Hp)
}

func isHouse(w *api.World, db *api.Db, h api.House) bool {
	r, ok := worlddb.Room(db, h.Room)
	return ok && r.Kind == api.RHouse && isGold(h.Chest) && isThere(w, h.Owner) &&
		rises(h.Guests, same[string]) &&
		all(h.Guests, func(guest string) bool { return guest != h.Owner && isThere(w, guest) })
}

// isLot leaves it to isThing whether another lot names the same thing.
func isLot(w *api.World, l api.Lot) bool {
	return isInLot(w, l.Thing) && isThere(w, l.Seller) && l.Min >= 1 && l.Ends > w.Now && hasBid(w, l)
}

// hasBid tells whether what is bid on a lot may be: nothing by nobody, too.
func hasBid(w *api.World, l api.Lot) bool {
	if l.Bid == 0 {
		return l.Bidder == ""
	}
	return isGold(l.Bid) && l.Bid >= l.Min && isThere(w, l.Bidder)
}

func isInLot(w *api.World, thing int64) bool {
	return slices.ContainsFunc(w.Things, func(t api.Thing) bool { return t.Id == thing && t.Place == api.InLot })
}

func isTill(t api.Till, s api.Shop) bool {
	return t.Room == s.Room && isGold(t.Gold)
}

func isName(s string) bool {
	return lines.Word(s) && within(len(s), leastName, mostName)
}

func isHash(s string) bool {
	return len(s) == hashBytes && all([]byte(s), isHexDigit)
}

func isHexDigit(c byte) bool {
	return '0' <= c && c <= '9' || 'a' <= c && c <= 'f'
}

func isGold(n int64) bool {
	return within(n, 0, api.MaxGold)
}

func isThere(w *api.World, name string) bool {
	return Char(w, name) >= 0
}

func isMobIn(w *api.World, id int64, room int) bool {
	return slices.ContainsFunc(w.Mobs, func(m api.Mob) bool { return m.Id == id && m.Room == room })
}

func hasRoom(db *api.Db, id int) bool {
	_, ok := worlddb.Room(db, id)
	return ok
}

func hasQuest(db *api.Db, id int) bool {
	return slices.ContainsFunc(db.Quests, func(q api.Quest) bool { return q.Id == id })
}

// The numbers by which lists rise, and which are all apart.

func thingId(t api.Thing) int64 { return t.Id }
func mobId(m api.Mob) int64     { return m.Id }
func lotId(l api.Lot) int64     { return l.Id }

// same is the key of what is its own.
func same[K any](x K) K { return x }

// rises tells whether the keys of l rise, and none comes twice.
func rises[T any, K cmp.Ordered](l []T, keyOf func(x T) K) bool {
	for i := 1; i < len(l); i++ {
		if keyOf(l[i-1]) >= keyOf(l[i]) {
			return false
		}
	}
	return true
}

func within[N int | int64](n, least, most N) bool {
	return least <= n && n <= most
}

// all tells whether each of l is so.
func all[T any](l []T, isSo func(x T) bool) bool {
	return !slices.ContainsFunc(l, func(x T) bool { return !isSo(x) })
}
