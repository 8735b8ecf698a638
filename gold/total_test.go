package gold_test

import (
	"reflect"
	"testing"

	"lychgate/api"
	"lychgate/gold"
)

func totals(t *testing.T, w *api.World, want int64) {
	t.Helper()
	if got := gold.Total(w); got != want {
		t.Errorf("Total(%+v): %d, want %d", w, got, want)
	}
}

// village is a world with some money in each place that may have any, and other numbers in all other places.
func village() *api.World {
	return &api.World{
		Now: 1 << 30, Next: 1 << 31, Minted: 1 << 32,
		Chars: []api.Char{
			{Name: "ann", Hash: "12", On: true, Room: 10000, Hp: 20000, Xp: 30000, Gold: 1, Bank: 2, Foe: 40000, Done: []int{50000}},
			{Name: "bob", Gold: 4, Bank: 8},
			{Name: "cid", On: true},
		},
		Things: []api.Thing{{Id: 60000, Proto: 70000, Place: api.Carried, Room: 80000, Who: "ann"}},
		Mobs:   []api.Mob{{Id: 90000, Proto: 100000, Room: 110000, Hp: 120000}},
		Houses: []api.House{
			{Room: 130000, Owner: "ann", Guests: []string{"bob"}, Chest: 16},
			{Room: 140000, Chest: 32},
		},
		Lots: []api.Lot{
			{Id: 150000, Thing: 160000, Seller: "ann", Min: 170000, Bid: 64, Bidder: "bob", Ends: 180000},
			{Id: 190000, Bid: 128},
		},
		Tills: []api.Till{{Room: 200000, Gold: 256}, {Room: 210000, Gold: 512}},
	}
}

// P15.1: all places together, and none but these: neither numbers, lives, ends nor what a lot asks at least.
func TestTotal(t *testing.T) {
	totals(t, village(), 1023)
}

// P15.1: each place alone.
func TestTotalAlone(t *testing.T) {
	totals(t, &api.World{Chars: []api.Char{{Name: "ann", Gold: 7}}}, 7)
	totals(t, &api.World{Chars: []api.Char{{Name: "ann", Gold: 7}, {Name: "bob"}, {Name: "cid", Gold: 30}}}, 37)
	totals(t, &api.World{Chars: []api.Char{{Name: "ann", Bank: 7}}}, 7)
	totals(t, &api.World{Chars: []api.Char{{Name: "ann"}, {Name: "bob", Bank: 12}, {Name: "cid", Bank: 5}}}, 17)
	totals(t, &api.World{Tills: []api.Till{{Room: 3, Gold: 500}}}, 500)
	totals(t, &api.World{Tills: []api.Till{{Room: 3, Gold: 500}, {Room: 4, Gold: 20}, {Room: 5}}}, 520)
	totals(t, &api.World{Houses: []api.House{{Room: 8, Owner: "ann", Chest: 90}}}, 90)
	totals(t, &api.World{Houses: []api.House{{Room: 8}, {Room: 9, Chest: 4}, {Room: 10, Chest: 6}}}, 10)
	totals(t, &api.World{Lots: []api.Lot{{Id: 1, Min: 50, Bid: 60, Bidder: "bob"}}}, 60)
	totals(t, &api.World{Lots: []api.Lot{{Id: 1, Bid: 60}, {Id: 2, Bid: 1}, {Id: 3}}}, 61)
}

// P15.1: money counts whether its owner is there or not, and whoever owns it, if anyone does.
func TestTotalWhoever(t *testing.T) {
	totals(t, &api.World{Chars: []api.Char{{On: true, Gold: 1, Bank: 2}, {On: false, Gold: 4, Bank: 8}}}, 15)
	totals(t, &api.World{Chars: []api.Char{{Name: "ann", Gold: 3}, {Name: "ann", Gold: 3}}}, 6)
	totals(t, &api.World{Tills: []api.Till{{Room: 2, Gold: 1}, {Room: 2, Gold: 1}, {Room: 1, Gold: 1}}}, 3)
	totals(t, &api.World{Lots: []api.Lot{{Bid: 9, Bidder: ""}, {Bid: 9, Bidder: "nobody"}}}, 18)
}

// P15.1: a lot on which nobody bids has no money, and what it asks at least is none.
func TestTotalMin(t *testing.T) {
	totals(t, &api.World{Lots: []api.Lot{{Id: 1, Seller: "ann", Min: 999}}}, 0)
	totals(t, &api.World{Minted: 5, Lots: []api.Lot{{Min: 999, Bid: 1000}}}, 1000)
}

// P15.1, P0.4: no world, an empty one, and nil and empty lists.
func TestTotalNone(t *testing.T) {
	totals(t, nil, 0)
	totals(t, &api.World{}, 0)
	totals(t, &api.World{Now: 5, Next: 6, Minted: 7}, 0)
	totals(t, &api.World{Chars: []api.Char{}, Things: []api.Thing{}, Mobs: []api.Mob{}, Houses: []api.House{}, Lots: []api.Lot{}, Tills: []api.Till{}}, 0)
	totals(t, &api.World{Chars: make([]api.Char, 3), Houses: make([]api.House, 3), Lots: make([]api.Lot, 3), Tills: make([]api.Till, 3)}, 0)
	for _, w := range []*api.World{
		{Chars: []api.Char{{Gold: 5}}, Houses: []api.House{}, Lots: []api.Lot{}, Tills: []api.Till{}},
		{Chars: []api.Char{}, Houses: []api.House{{Chest: 5}}, Tills: []api.Till{}},
		{Houses: []api.House{}, Lots: []api.Lot{{Bid: 5}}},
		{Lots: []api.Lot{}, Tills: []api.Till{{Gold: 5}}},
	} {
		totals(t, w, 5)
	}
}

// P15.1: many of each, with as much as each may have.
func TestTotalMuch(t *testing.T) {
	w := &api.World{}
	for range 5000 {
		w.Chars = append(w.Chars, api.Char{Gold: most, Bank: most})
		w.Houses = append(w.Houses, api.House{Chest: most})
		w.Lots = append(w.Lots, api.Lot{Bid: most})
		w.Tills = append(w.Tills, api.Till{Gold: most})
	}
	totals(t, w, 25000*most)
}

// P15.1: a total goes beyond what one place may have.
func TestTotalBeyond(t *testing.T) {
	totals(t, &api.World{Chars: []api.Char{{Gold: most, Bank: 1}}}, most+1)
	totals(t, &api.World{Chars: []api.Char{{Gold: most + 5}}}, most+5)
	totals(t, &api.World{Chars: []api.Char{{Gold: greatest}}}, greatest)
	totals(t, &api.World{Tills: []api.Till{{Gold: greatest - 1}, {Gold: 1}}}, greatest)
}

// P15.1: what is below 0 counts as it stands.
func TestTotalBelow(t *testing.T) {
	totals(t, &api.World{Chars: []api.Char{{Gold: -1}}}, -1)
	totals(t, &api.World{Chars: []api.Char{{Gold: -5, Bank: 3}}}, -2)
	totals(t, &api.World{Houses: []api.House{{Chest: -5}}, Lots: []api.Lot{{Bid: 6}}}, 1)
	totals(t, &api.World{Lots: []api.Lot{{Bid: -6}}, Tills: []api.Till{{Gold: -1}}}, -7)
	totals(t, &api.World{Chars: []api.Char{{Bank: least}}}, least)
	totals(t, &api.World{Chars: []api.Char{{Bank: least + 1}, {Gold: -1}}}, least)
}

// P15.1, P0.6: no sum wraps on the way, in whatever order the parts come.
func TestTotalWay(t *testing.T) {
	totals(t, &api.World{Chars: []api.Char{{Gold: greatest, Bank: greatest}, {Gold: -greatest, Bank: -greatest}}}, 0)
	totals(t, &api.World{Chars: []api.Char{{Gold: greatest, Bank: 1}, {Gold: -1}}}, greatest)
	totals(t, &api.World{Chars: []api.Char{{Gold: greatest}}, Tills: []api.Till{{Gold: 5}}, Houses: []api.House{{Chest: 7}}, Lots: []api.Lot{{Bid: -20}}}, greatest-8)
	totals(t, &api.World{Chars: []api.Char{{Gold: least, Bank: least}}, Lots: []api.Lot{{Bid: greatest}, {Bid: greatest}}}, -2)
	totals(t, &api.World{Chars: []api.Char{{Gold: least}}, Tills: []api.Till{{Gold: -1}}, Lots: []api.Lot{{Bid: 3}}}, least+2)
	w := &api.World{}
	for range 1000 {
		w.Chars = append(w.Chars, api.Char{Gold: greatest, Bank: greatest})
		w.Lots = append(w.Lots, api.Lot{Bid: least}, api.Lot{Bid: least})
	}
	totals(t, w, -2000)
}

// P15.1, P0.6: a sum beyond what an int64 holds does not wrap either: the answer is the greatest or the least one.
func TestTotalBeyondAll(t *testing.T) {
	totals(t, &api.World{Chars: []api.Char{{Gold: greatest, Bank: 1}}}, greatest)
	totals(t, &api.World{Chars: []api.Char{{Gold: greatest, Bank: greatest}}}, greatest)
	totals(t, &api.World{Tills: []api.Till{{Gold: greatest}, {Gold: greatest}, {Gold: greatest}}}, greatest)
	totals(t, &api.World{Chars: []api.Char{{Gold: least, Bank: -1}}}, least)
	totals(t, &api.World{Chars: []api.Char{{Gold: least, Bank: least}}}, least)
	totals(t, &api.World{Houses: []api.House{{Chest: least}, {Chest: least}, {Chest: least}}}, least)
	w := &api.World{}
	for k := range 5000 {
		w.Lots = append(w.Lots, api.Lot{Bid: greatest - int64(k)})
		totals(t, w, greatest)
	}
}

// fill writes into the spare room of all lists of a world and cuts it off again.
func fill(w *api.World) {
	w.Chars = append(make([]api.Char, 0, 8), w.Chars...)
	w.Houses = append(make([]api.House, 0, 8), w.Houses...)
	w.Lots = append(make([]api.Lot, 0, 8), w.Lots...)
	w.Tills = append(make([]api.Till, 0, 8), w.Tills...)
	for k := len(w.Chars); k < 8; k++ {
		w.Chars[:8][k].Gold = 1 << 41
		w.Chars[:8][k].Bank = 1 << 42
	}
	for k := len(w.Houses); k < 8; k++ {
		w.Houses[:8][k].Chest = 1 << 43
	}
	for k := len(w.Lots); k < 8; k++ {
		w.Lots[:8][k].Bid = 1 << 44
	}
	for k := len(w.Tills); k < 8; k++ {
		w.Tills[:8][k].Gold = 1 << 45
	}
}

// whole is a world with its lists' spare room.
func whole(w *api.World) *api.World {
	all := *w
	all.Chars = w.Chars[:cap(w.Chars)]
	all.Houses = w.Houses[:cap(w.Houses)]
	all.Lots = w.Lots[:cap(w.Lots)]
	all.Tills = w.Tills[:cap(w.Tills)]
	return &all
}

// P15.1, P0.3: the world stays as it is, its lists' spare room too, and that does not count.
func TestWorldStays(t *testing.T) {
	w, same := village(), village()
	fill(w)
	fill(same)
	totals(t, w, 1023)
	totals(t, w, 1023)
	if !reflect.DeepEqual(whole(w), whole(same)) {
		t.Errorf("the world has become %+v", w)
	}
	if !reflect.DeepEqual(w, village()) {
		t.Errorf("the world has become %+v", w)
	}
}

// P15.1, P0.3, P0.5: nothing of a world is kept: each call tells what stands there then.
func TestWorldNotKept(t *testing.T) {
	w := village()
	totals(t, w, 1023)
	w.Chars[1].Gold = 0
	totals(t, w, 1019)
	w.Tills = nil
	totals(t, w, 251)
	totals(t, &api.World{}, 0)
	totals(t, village(), 1023)
	w.Lots[0].Bid = 1000
	w.Houses[1].Chest, w.Chars[0].Bank = 0, 1
	totals(t, w, 1154)
	*w = api.World{}
	totals(t, w, 0)
	totals(t, nil, 0)
}
