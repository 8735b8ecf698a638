package gold_test

import (
	"math/big"
	"math/rand"
	"testing"

	"lychgate/api"
)

// money tells whether a number without bounds is from 0 to 2^40.
func money(n *big.Int) bool {
	return n.Sign() >= 0 && n.Cmp(big.NewInt(most)) <= 0
}

// modelAdd holds Add against numbers that can't wrap.
func modelAdd(t *testing.T, a, b int64) {
	t.Helper()
	x, y := big.NewInt(a), big.NewInt(b)
	sum := new(big.Int).Add(x, y)
	if money(x) && money(y) && money(sum) {
		sums(t, a, b, sum.Int64())
	} else {
		sumsNot(t, a, b)
	}
}

// modelMove holds Move against numbers that can't wrap.
func modelMove(t *testing.T, from, to, n int64) {
	t.Helper()
	left := new(big.Int).Sub(big.NewInt(from), big.NewInt(n))
	grown := new(big.Int).Add(big.NewInt(to), big.NewInt(n))
	if n > 0 && money(left) && money(grown) {
		moves(t, from, to, n, left.Int64(), grown.Int64())
	} else {
		stays(t, from, to, n)
	}
}

// modelTotal holds Total against numbers that can't wrap.
func modelTotal(t *testing.T, w *api.World) {
	t.Helper()
	var parts []int64
	for _, c := range w.Chars {
		parts = append(parts, c.Gold, c.Bank)
	}
	for _, h := range w.Houses {
		parts = append(parts, h.Chest)
	}
	for _, l := range w.Lots {
		parts = append(parts, l.Bid)
	}
	for _, s := range w.Tills {
		parts = append(parts, s.Gold)
	}
	sum := new(big.Int)
	for _, n := range parts {
		sum.Add(sum, big.NewInt(n))
	}
	if sum.Cmp(big.NewInt(greatest)) > 0 {
		sum.SetInt64(greatest)
	}
	if sum.Cmp(big.NewInt(least)) < 0 {
		sum.SetInt64(least)
	}
	totals(t, w, sum.Int64())
}

// corners are the numbers at which something changes, and those beside them.
func corners() []int64 {
	var l []int64
	for _, n := range []int64{least + 3, least + most, -2 * most, -most, 0, most / 2, most, 2 * most, greatest - most, greatest - 3} {
		for d := int64(-3); d <= 3; d++ {
			l = append(l, n+d)
		}
	}
	return l
}

// P15.1, P0.6: all corners on all sides.
func TestCorners(t *testing.T) {
	l := corners()
	for _, a := range l {
		for _, b := range l {
			modelAdd(t, a, b)
			for _, n := range l {
				modelMove(t, a, b, n)
			}
		}
	}
}

// wide picks numbers of all sizes.
func wide(r *rand.Rand) int64 {
	return int64(r.Uint64()) >> r.Intn(64)
}

// near picks numbers beside 0, or beside a bound.
func near(r *rand.Rand) int64 {
	l := corners()
	return l[r.Intn(len(l))]
}

// P15.1, P0.6: random sides; half of the moves are made to end near a bound.
func TestRandom(t *testing.T) {
	r := rand.New(rand.NewSource(1))
	for range 100000 {
		a, b, n := wide(r), wide(r), wide(r)
		modelAdd(t, a, b)
		modelMove(t, a, b, n)
		modelAdd(t, a&(2*most-1), b&(2*most-1))
		modelMove(t, a&(2*most-1), b&(2*most-1), n&(2*most-1))
		modelMove(t, n+near(r), near(r)-n, n)
	}
}

// P15.1, P0.6: random worlds.
func TestRandomWorlds(t *testing.T) {
	r := rand.New(rand.NewSource(2))
	for range 20000 {
		pick := wide
		if r.Intn(2) == 0 {
			pick = near
		}
		w := &api.World{Now: wide(r), Minted: wide(r)}
		for range r.Intn(4) {
			w.Chars = append(w.Chars, api.Char{Gold: pick(r), Bank: pick(r)})
		}
		for range r.Intn(4) {
			w.Houses = append(w.Houses, api.House{Chest: pick(r)})
		}
		for range r.Intn(4) {
			w.Lots = append(w.Lots, api.Lot{Min: pick(r), Bid: pick(r)})
		}
		for range r.Intn(4) {
			w.Tills = append(w.Tills, api.Till{Gold: pick(r)})
		}
		modelTotal(t, w)
	}
}

// P15.1, P0.1, P0.6: any numbers at all.
func FuzzGold(f *testing.F) {
	f.Add(int64(5), int64(1), int64(5))
	f.Add(int64(most+5), int64(-3), int64(5))
	f.Add(int64(greatest), int64(-greatest), int64(greatest))
	f.Add(int64(least), int64(least), int64(least))
	f.Fuzz(func(t *testing.T, a, b, n int64) {
		modelAdd(t, a, b)
		modelMove(t, a, b, n)
		modelTotal(t, &api.World{Chars: []api.Char{{Gold: a, Bank: b}}, Lots: []api.Lot{{Bid: n}}})
	})
}
