package entity

import (
	"math"
	"slices"

	"lychgate/api"
)

// Make puts one more thing of that kind into the world, if it has room for one.
func Make(w *api.World, proto int, t api.Thing) bool {
	// Behind the greatest int64 there is no next number.
	if w == nil || len(w.Things) >= api.MaxThings || w.Next == math.MaxInt64 {
		return false
	}
	made := api.Thing{Id: w.Next, Proto: proto, Place: t.Place, Room: t.Room, Who: t.Who}
	// The list's spare room may be another list's room.
	w.Things = append(slices.Clip(w.Things), made)
	w.Next++
	return true
}

// Drop takes the thing of that number out of the world.
func Drop(w *api.World, thing int64) bool {
	if w == nil {
		return false
	}
	i := slices.IndexFunc(w.Things, func(t api.Thing) bool { return t.Id == thing })
	if i < 0 {
		return false
	}
	// What is left is a list of its own, as another world may hold the old one.
	w.Things = slices.Concat(w.Things[:i], w.Things[i+1:])
	return true
}
