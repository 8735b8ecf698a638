package gold

import (
	"math"
	"math/bits"

	"lychgate/api"
)

// Total tells how much money there is in a world, whoever has it.
func Total(w *api.World) int64 {
	if w == nil {
		return 0
	}
	var t total
	for _, c := range w.Chars {
		t.add(c.Gold)
		t.add(c.Bank)
	}
	for _, s := range w.Tills {
		t.add(s.Gold)
	}
	for _, h := range w.Houses {
		t.add(h.Chest)
	}
	for _, l := range w.Lots {
		t.add(l.Bid)
	}
	return t.value()
}

// total is a sum of 128 bits, high ones and low ones: a world that no run makes may hold more money than an int64,
// and where its parts outweigh one another the sum must not hang on which of them comes first.
type total struct {
	high, low uint64
}

// add adds n, with its sign in the high bits.
func (t *total) add(n int64) {
	low, carry := bits.Add64(t.low, uint64(n), 0)
	t.high, _ = bits.Add64(t.high, uint64(n>>63), carry)
	t.low = low
}

// value is the sum, or the int64 that is next to it.
func (t *total) value() int64 {
	if t.high == uint64(int64(t.low)>>63) {
		return int64(t.low)
	}
	if t.high>>63 == 1 {
		return math.MinInt64
	}
	return math.MaxInt64
}
