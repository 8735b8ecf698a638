package codec

import (
	"math/bits"

	"lychgate/api"
)

const (
	// small is the first number that takes more than a byte.
	small = 248
	// short is the first length that takes more than a byte.
	short = 128
)

// twisted answers n as a number without a sign, in which those near zero are
// small, the negative ones too.
func twisted(n int64) uint64 {
	return uint64(n)<<1 ^ uint64(n>>63)
}

// size tells how many bytes u fills.
func size(u uint64) int {
	return (bits.Len64(u) + 7) / 8
}

// putNumber lays n behind b, in one to nine bytes: a small one itself, of a
// greater one how many bytes follow, and these, the highest first.
func putNumber(b []byte, n int64) []byte {
	u := twisted(n)
	if u < small {
		return append(b, byte(u))
	}
	k := size(u)
	b = append(b, byte(small-1+k))
	for k > 0 {
		k--
		b = append(b, byte(u>>(8*k)))
	}
	return b
}

func putInt(b []byte, n int) []byte {
	return putNumber(b, int64(n))
}

// putLength lays n behind b, in one byte or in four. Not as a number: a
// character's row has 64 bytes for all that it has beside its texts, too few
// for lengths of five. 31 bits are enough, as nothing longer is ever given.
func putLength(b []byte, n int) []byte {
	if n < short {
		return append(b, byte(n))
	}
	return append(b, byte(n>>24)|short, byte(n>>16), byte(n>>8), byte(n))
}

func putText(b []byte, s string) []byte {
	return append(putLength(b, len(s)), s...)
}

func putBool(b []byte, is bool) []byte {
	if is {
		return append(b, 1)
	}
	return append(b, 0)
}

func putList[T any](b []byte, l []T, put func(b []byte, row T) []byte) []byte {
	b = putLength(b, len(l))
	for _, row := range l {
		b = put(b, row)
	}
	return b
}

func putChar(b []byte, c api.Char) []byte {
	b = putText(b, c.Name)
	b = putText(b, c.Hash)
	b = putBool(b, c.On)
	b = putInt(b, c.Room)
	b = putNumber(b, c.Hp)
	b = putNumber(b, c.Xp)
	b = putNumber(b, c.Gold)
	b = putNumber(b, c.Bank)
	b = putNumber(b, c.Foe)
	return putList(b, c.Done, putInt)
}

func putThing(b []byte, t api.Thing) []byte {
	b = putNumber(b, t.Id)
	b = putInt(b, t.Proto)
	b = putInt(b, t.Place)
	b = putInt(b, t.Room)
	return putText(b, t.Who)
}

func putMob(b []byte, m api.Mob) []byte {
	b = putNumber(b, m.Id)
	b = putInt(b, m.Proto)
	b = putInt(b, m.Room)
	return putNumber(b, m.Hp)
}

func putHouse(b []byte, h api.House) []byte {
	b = putInt(b, h.Room)
	b = putText(b, h.Owner)
	b = putList(b, h.Guests, putText)
	return putNumber(b, h.Chest)
}

func putLot(b []byte, l api.Lot) []byte {
	b = putNumber(b, l.Id)
	b = putNumber(b, l.Thing)
	b = putText(b, l.Seller)
	b = putNumber(b, l.Min)
	b = putNumber(b, l.Bid)
	b = putText(b, l.Bidder)
	return putNumber(b, l.Ends)
}

func putTill(b []byte, t api.Till) []byte {
	b = putInt(b, t.Room)
	return putNumber(b, t.Gold)
}
