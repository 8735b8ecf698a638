package entity

import (
	"slices"
	"strings"

	"lychgate/api"
	"lychgate/lines"
	"lychgate/worlddb"
)

// mostNth is the greatest N of N.name.
const mostNth = 99

// Char answers where the character of that name stands in the list, -1: nowhere.
func Char(w *api.World, name string) int {
	if w == nil {
		return -1
	}
	return slices.IndexFunc(w.Chars, func(c api.Char) bool { return c.Name == name })
}

// Here answers the things that lie in a room.
func Here(w *api.World, room int) []int {
	if w == nil {
		return nil
	}
	return places(w.Things, func(t api.Thing) bool { return t.Place == api.InRoom && t.Room == room })
}

// Of answers the things that a character carries or wears.
func Of(w *api.World, name string, place int) []int {
	if w == nil || place != api.Carried && place != api.Worn {
		return nil
	}
	return places(w.Things, func(t api.Thing) bool { return t.Place == place && t.Who == name })
}

// Mobs answers the mobiles in a room.
func Mobs(w *api.World, room int) []int {
	if w == nil {
		return nil
	}
	return places(w.Mobs, func(m api.Mob) bool { return m.Room == room })
}

// Who answers the characters that are On in a room.
func Who(w *api.World, room int) []int {
	if w == nil {
		return nil
	}
	return places(w.Chars, func(c api.Char) bool { return c.On && c.Room == room })
}

// places answers where in l those stand that are so.
func places[T any](l []T, isSo func(x T) bool) []int {
	var found []int
	for i, x := range l {
		if isSo(x) {
			found = append(found, i)
		}
	}
	return found
}

// Find answers which of these things the word means, -1: none of them.
func Find(w *api.World, db *api.Db, among []int, word string) int {
	n, name := nth(word)
	if w == nil || n == 0 {
		return -1
	}
	for _, i := range among {
		if i < 0 || i >= len(w.Things) || !isNamed(db, w.Things[i], name) {
			continue
		}
		if n--; n == 0 {
			return i
		}
	}
	return -1
}

// nth cuts a word into which one it means and of what name; 0: it means none.
func nth(word string) (int64, string) {
	number, name, ok := strings.Cut(word, ".")
	if !ok {
		return 1, word
	}
	n, ok := lines.Number(number)
	if !ok || n > mostNth {
		return 0, ""
	}
	return n, name
}

// isNamed tells whether t's kind is there and has that name.
func isNamed(db *api.Db, t api.Thing, name string) bool {
	p, ok := worlddb.Proto(db, t.Proto)
	return ok && p.Name == name
}
