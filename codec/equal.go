package codec

import (
	"slices"

	"lychgate/api"
)

// EqWorld tells whether all fields of two worlds are the same.
func EqWorld(a, b *api.World) bool {
	if a == nil || b == nil {
		return a == nil && b == nil
	}
	return a.Now == b.Now && a.Next == b.Next && a.Minted == b.Minted &&
		slices.EqualFunc(a.Chars, b.Chars, sameChar) &&
		slices.Equal(a.Things, b.Things) &&
		slices.Equal(a.Mobs, b.Mobs) &&
		slices.EqualFunc(a.Houses, b.Houses, sameHouse) &&
		slices.Equal(a.Lots, b.Lots) &&
		slices.Equal(a.Tills, b.Tills)
}

// EqEvent tells whether all fields of two events are the same.
func EqEvent(a, b api.Event) bool {
	return a.Kind == b.Kind && a.Name == b.Name && a.Text == b.Text && slices.Equal(a.Dice, b.Dice)
}

func sameChar(a, b api.Char) bool {
	return a.Name == b.Name && a.Hash == b.Hash && a.On == b.On && a.Room == b.Room &&
		a.Hp == b.Hp && a.Xp == b.Xp && a.Gold == b.Gold && a.Bank == b.Bank &&
		a.Foe == b.Foe && slices.Equal(a.Done, b.Done)
}

func sameHouse(a, b api.House) bool {
	return a.Room == b.Room && a.Owner == b.Owner && slices.Equal(a.Guests, b.Guests) && a.Chest == b.Chest
}
