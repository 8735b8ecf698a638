package codec_test

import (
	"math"
	"reflect"
	"slices"
	"strings"
	"testing"

	"lychgate/api"
	"lychgate/codec"
)

// most answers how many bytes a world may take.
func most(w *api.World) int {
	rows := len(w.Chars) + len(w.Things) + len(w.Mobs) + len(w.Houses) + len(w.Lots) + len(w.Tills)
	words := 0
	for _, c := range w.Chars {
		rows += len(c.Done)
		words += len(c.Name) + len(c.Hash)
	}
	for _, x := range w.Things {
		words += len(x.Who)
	}
	for _, h := range w.Houses {
		rows += len(h.Guests)
		words += len(h.Owner)
		for _, g := range h.Guests {
			words += len(g)
		}
	}
	for _, l := range w.Lots {
		words += len(l.Seller) + len(l.Bidder)
	}
	return 64 + words + 64*rows
}

// mostOfEvent answers how many bytes an event may take.
func mostOfEvent(e api.Event) int {
	return 64 + len(e.Name) + len(e.Text) + 10*len(e.Dice)
}

// fillAll sets all numbers below v to n, all texts to s, and all bools.
func fillAll(v reflect.Value, n int64, s string) {
	visit(v, func(path []int) {
		switch f := at(v, path); f.Kind() {
		case reflect.String:
			f.SetString(s)
		case reflect.Bool:
			f.SetBool(true)
		case reflect.Int, reflect.Int64:
			f.SetInt(n)
		}
	}, nil)
}

// shapes are worlds of n rows of one kind each, and one of n rows of all.
func shapes(n int) []*api.World {
	guests, done := []api.House{{Guests: make([]string, n)}}, []api.Char{{Done: make([]int, n)}}
	return []*api.World{
		{},
		{Chars: make([]api.Char, n)}, {Things: make([]api.Thing, n)}, {Mobs: make([]api.Mob, n)},
		{Houses: make([]api.House, n)}, {Lots: make([]api.Lot, n)}, {Tills: make([]api.Till, n)},
		{Houses: guests}, {Chars: done},
		{
			Chars: slices.Repeat(done, n), Things: make([]api.Thing, n), Mobs: make([]api.Mob, n),
			Houses: slices.Repeat(guests, n), Lots: make([]api.Lot, n), Tills: make([]api.Till, n),
		},
	}
}

// TestMostBytes has all numbers as great as can be, and texts whose lengths
// take ever more bytes. Of many rows of one kind each must keep to its 64
// bytes, as what the world itself leaves doesn't help them.
func TestMostBytes(t *testing.T) {
	for _, n := range []int{1, 2, 127, 128, 300} {
		for _, w := range shapes(n) {
			w = plain(w)
			for _, number := range []int64{math.MinInt64, math.MaxInt64, -1, 1 << 55, -1 << 55} {
				for _, long := range []int{0, 1, 128} {
					fillAll(reflect.ValueOf(w).Elem(), number, strings.Repeat("x", long))
					if got := len(codec.World(w)); got > most(w) {
						t.Errorf("%d rows, numbers %d, texts of %d: %d bytes, at most %d may be", n, number, long, got, most(w))
					}
				}
			}
			goesAndComes(t, w)
		}
	}
}

// TestMostBytesOfLongTexts has texts whose lengths are greater than 16 and 24
// bits. A string many times takes room but once, until it is written.
func TestMostBytesOfLongTexts(t *testing.T) {
	for _, long := range []int{1 << 14, 1<<16 - 1, 1 << 16, 1 << 21, 1<<24 - 1, 1 << 24, 1<<24 + 129} {
		s := strings.Repeat("ab", long)[:long]
		for _, w := range shapes(2) {
			w = plain(w)
			if long > 1<<20 && most(w) > 1000 {
				continue
			}
			fillAll(reflect.ValueOf(w).Elem(), math.MinInt64, s)
			goesAndComes(t, w)
		}
		eventGoesAndComes(t, api.Event{Kind: math.MinInt, Name: s, Text: s, Dice: []int{math.MinInt}})
	}
}

func TestMostBytesOfEvents(t *testing.T) {
	for _, number := range []int{math.MinInt, math.MaxInt, -1, 1 << 55, -1 << 55} {
		for _, n := range []int{0, 1, 2, 8, 127, 128, 1000, 1 << 17} {
			for _, long := range []int{0, 1, 127, 128, 70000} {
				s := strings.Repeat("\xff", long)
				eventGoesAndComes(t, api.Event{Kind: number, Name: s, Text: s, Dice: slices.Repeat([]int{number}, n)})
			}
		}
	}
}

// TestSmallThingsTakeFewBytes: a full world has to find room, twice, on the
// smallest disk that a file system may have.
func TestSmallThingsTakeFewBytes(t *testing.T) {
	w := town()
	for len(w.Things) < api.MaxThings {
		w.Things = append(w.Things, api.Thing{Id: int64(len(w.Things)), Proto: 30, Place: api.InRoom, Room: 50})
	}
	for len(w.Chars) < api.MaxChars {
		w.Chars = append(w.Chars, api.Char{Name: "somebody", Hash: strings.Repeat("0", 64), Room: 20, Hp: 100, Xp: 10000, Gold: 100000})
	}
	if got := len(codec.World(w)); got > 8000 {
		t.Errorf("a world takes %d bytes", got)
	}
}
