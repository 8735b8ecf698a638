package gold_test

import (
	"math"
	"testing"

	"lychgate/api"
	"lychgate/gold"
)

const (
	most     = 1 << 40
	least    = math.MinInt64
	greatest = math.MaxInt64
)

// sums asks for a sum that may be, both ways round.
func sums(t *testing.T, a, b, want int64) {
	t.Helper()
	for _, x := range [][2]int64{{a, b}, {b, a}} {
		if n, ok := gold.Add(x[0], x[1]); n != want || !ok {
			t.Errorf("Add(%d, %d): %d, %v, want %d, true", x[0], x[1], n, ok, want)
		}
	}
}

// sumsNot asks for a sum that may not be, both ways round.
func sumsNot(t *testing.T, a, b int64) {
	t.Helper()
	for _, x := range [][2]int64{{a, b}, {b, a}} {
		if n, ok := gold.Add(x[0], x[1]); n != 0 || ok {
			t.Errorf("Add(%d, %d): %d, %v, want 0, false", x[0], x[1], n, ok)
		}
	}
}

// moves asks for a move that may be.
func moves(t *testing.T, from, to, n, left, grown int64) {
	t.Helper()
	a, b, ok := gold.Move(from, to, n)
	if a != left || b != grown || !ok {
		t.Errorf("Move(%d, %d, %d): %d, %d, %v, want %d, %d, true", from, to, n, a, b, ok, left, grown)
	}
}

// stays asks for a move that may not be: both sides are answered as they came.
func stays(t *testing.T, from, to, n int64) {
	t.Helper()
	a, b, ok := gold.Move(from, to, n)
	if a != from || b != to || ok {
		t.Errorf("Move(%d, %d, %d): %d, %d, %v, want %d, %d, false", from, to, n, a, b, ok, from, to)
	}
}

// P15.1: the bound of money is the one that api names.
func TestBound(t *testing.T) {
	if api.MaxGold != most {
		t.Errorf("MaxGold is %d", api.MaxGold)
	}
}

// P15.1: sums of some money.
func TestAdd(t *testing.T) {
	sums(t, 1, 2, 3)
	sums(t, 7, 0, 7)
	sums(t, 100, 23, 123)
	sums(t, 1000000, 999, 1000999)
	sums(t, 1<<39, 5, 1<<39+5)
	sums(t, 1<<32, 1<<31, 3<<31)
}

// P15.1: sums of two small sides, all of them.
func TestAddSmall(t *testing.T) {
	for a := int64(0); a < 40; a++ {
		for b := int64(0); b < 40; b++ {
			sums(t, a, b, a+b)
			sumsNot(t, a, -1-b)
			sumsNot(t, -1-a, -1-b)
		}
	}
}

// P15.1: 0, 2^40 and one more, on each side and as the sum.
func TestAddEdges(t *testing.T) {
	sums(t, 0, 0, 0)
	sums(t, 0, 1, 1)
	sums(t, most, 0, most)
	sums(t, most-1, 0, most-1)
	sums(t, most-1, 1, most)
	sums(t, most/2, most/2, most)
	sums(t, most/2-1, most/2, most-1)
	sumsNot(t, most, 1)
	sumsNot(t, most-1, 2)
	sumsNot(t, most/2, most/2+1)
	sumsNot(t, most, most)
	sumsNot(t, most+1, 0)
	sumsNot(t, most+1, 1)
	sumsNot(t, most+1, most+1)
	for k := int64(0); k <= 60; k++ {
		sums(t, most-k, k, most)
		sumsNot(t, most-k, k+1)
		sumsNot(t, most+1+k, 0)
	}
}

// P15.1: a side that may not be has no sum, though the sum itself might be.
func TestAddSides(t *testing.T) {
	sumsNot(t, -1, 0)
	sumsNot(t, -1, 1)
	sumsNot(t, -1, 2)
	sumsNot(t, -5, 105)
	sumsNot(t, -1, -1)
	sumsNot(t, most+1, -1)
	sumsNot(t, most+5, -5)
	sumsNot(t, most+5, -most)
	sumsNot(t, 2*most, -most)
	sumsNot(t, -most, most)
	sumsNot(t, -most, most+1)
}

// P15.1, P0.6: nothing wraps, however far from money both sides are.
func TestAddHuge(t *testing.T) {
	for _, a := range []int64{least, least + 1, least + most, greatest - most, greatest - 1, greatest} {
		for _, b := range []int64{least, least + 1, -most, -1, 0, 1, most, most + 1, greatest - 1, greatest} {
			sumsNot(t, a, b)
		}
	}
}

// P15.1: moves of a part and of all.
func TestMove(t *testing.T) {
	moves(t, 5, 1, 2, 3, 3)
	moves(t, 5, 1, 5, 0, 6)
	moves(t, 100, 0, 1, 99, 1)
	moves(t, 100, 0, 100, 0, 100)
	moves(t, 123456789, 987654321, 23456789, 100000000, 1011111110)
	moves(t, 1<<39, 1<<38, 1<<37, 3<<37, 3<<37)
	stays(t, 5, 1, 6)
	stays(t, 0, 1, 1)
	stays(t, 99, 0, 100)
}

// P15.1: moves of all sizes between small sides.
func TestMoveSmall(t *testing.T) {
	for from := int64(-4); from <= 12; from++ {
		for to := int64(-9); to <= 9; to++ {
			for n := int64(-15); n <= 15; n++ {
				if n > 0 && from-n >= 0 && to+n >= 0 {
					moves(t, from, to, n, from-n, to+n)
				} else {
					stays(t, from, to, n)
				}
			}
		}
	}
}

// P15.1: a move that leaves 0, one that fills up to 2^40, and those that would go one beyond.
func TestMoveEdges(t *testing.T) {
	moves(t, 1, 0, 1, 0, 1)
	moves(t, most, 0, most, 0, most)
	moves(t, most, 0, 1, most-1, 1)
	moves(t, most, 0, most-1, 1, most-1)
	moves(t, most, most-1, 1, most-1, most)
	moves(t, 5, most-5, 5, 0, most)
	stays(t, most, most, 1)
	stays(t, most, 1, most)
	stays(t, 5, most-4, 5)
	stays(t, 5, most, 1)
	stays(t, 4, most-5, 5)
	for n := int64(1); n <= 60; n++ {
		moves(t, n, 0, n, 0, n)
		stays(t, n-1, 0, n)
		moves(t, 60, most-n, n, 60-n, most)
		stays(t, 60, most-n+1, n)
	}
}

// P15.1: it is behind the move that the bounds count: what lies beyond them ahead of it may come back.
func TestMoveBeyond(t *testing.T) {
	moves(t, most+5, 0, 5, most, 5)
	moves(t, most+5, 0, 6, most-1, 6)
	stays(t, most+5, 0, 4)
	moves(t, most+1, 0, 1, most, 1)
	stays(t, most+2, 0, 1)
	moves(t, 2*most, 0, most, most, most)
	stays(t, 2*most+1, 0, most)
	stays(t, 2*most, 0, most+1)
	moves(t, 9, -3, 3, 6, 0)
	moves(t, 9, -3, 4, 5, 1)
	moves(t, 9, -3, 9, 0, 6)
	stays(t, 9, -3, 2)
	moves(t, 1, -1, 1, 0, 0)
	stays(t, 1, -2, 1)
	moves(t, most+3, -3, 3, most, 0)
	moves(t, 2*most, -most, most, most, 0)
	moves(t, 2*most, -most, 2*most, 0, most)
	stays(t, 2*most, -most, most-1)
	stays(t, 2*most, -most, 2*most+1)
	stays(t, 3, most+1, 1)
	stays(t, 3, most+1, 3)
}

// P15.1: nothing is moved by 0, and nothing back by a number below 0.
func TestMoveNothing(t *testing.T) {
	for _, n := range []int64{0, -1, -2, -5, -most, -most - 1, least + 1, least} {
		for _, from := range []int64{0, 1, 5, most, most + 1, -1, -5, least, greatest} {
			for _, to := range []int64{0, 1, 5, most, most + 1, -1, -5, least, greatest} {
				stays(t, from, to, n)
			}
		}
	}
}

// P15.1, P0.6: nothing wraps: the greatest and the least numbers on every side.
func TestMoveHuge(t *testing.T) {
	stays(t, greatest, greatest, greatest)
	stays(t, greatest, greatest, 1)
	stays(t, greatest, least, greatest)
	stays(t, greatest, least, 1)
	stays(t, greatest, 0, greatest)
	stays(t, greatest, most, greatest)
	stays(t, greatest, 0, most)
	stays(t, least, 0, 1)
	stays(t, least, greatest, 1)
	stays(t, least, greatest, greatest)
	stays(t, least, least, greatest)
	stays(t, least, least, 1)
	stays(t, 0, greatest, 1)
	stays(t, 0, 0, greatest)
	stays(t, -1, 0, greatest)
	stays(t, -2, 0, greatest)
	stays(t, -3, 0, greatest)
	stays(t, 1, greatest, 1)
	stays(t, most, greatest, most)
	stays(t, most, 1, greatest)
	stays(t, most, least, most)
}

// P15.1, P0.6: a huge move is one as any other, where both sides come to be money.
func TestMoveHugeMoved(t *testing.T) {
	moves(t, greatest, -greatest, greatest, 0, 0)
	moves(t, greatest, -greatest+most, greatest, 0, most)
	moves(t, greatest, -greatest+7, greatest-5, 5, 2)
	moves(t, greatest, most-(greatest-most), greatest-most, most, most)
	stays(t, greatest, -greatest+most+1, greatest)
	stays(t, greatest-1, -greatest, greatest)
	stays(t, greatest, -greatest-1, greatest)
	stays(t, greatest, -(greatest - most - 1), greatest-most-1)
}
