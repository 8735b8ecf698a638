package codec

import (
	"math"
	"slices"
	"testing"
)

// TestLengthParts goes through lengths up to the greatest one that the
// document's limits leave, of which no text is at hand.
func TestLengthParts(t *testing.T) {
	l := []int{0, 1, math.MaxInt32 - 1, math.MaxInt32}
	for k := range 31 {
		l = append(l, 1<<k-1, 1<<k, min(1<<k+1, math.MaxInt32))
	}
	for _, n := range l {
		b := putLength([]byte{9}, n)
		r := &reader{rest: append(slices.Clone(b), 5)}
		if c, got := r.nextByte(), r.nextLength(); c != 9 || got != n || r.broken || len(r.rest) != 1 {
			t.Errorf("%d is read from %v as %d, rest %v", n, b, got, r.rest)
		}
		if len(b) > 1+4 || n < short && len(b) > 1+1 {
			t.Errorf("length %d takes %d bytes", n, len(b)-1)
		}
	}
}

// TestNumberParts goes through numbers at and beside those that take a byte more.
func TestNumberParts(t *testing.T) {
	for k := range 64 {
		for _, near := range []int64{-249, -248, -125, -124, -123, -2, -1, 0, 1, 2, 123, 124, 125, 247, 248} {
			for _, n := range []int64{1<<k + near, -1<<k + near} {
				b := putNumber([]byte{9}, n)
				r := &reader{rest: append(slices.Clone(b), 5)}
				if c, got := r.nextByte(), r.nextNumber(); c != 9 || got != n || r.broken || len(r.rest) != 1 {
					t.Errorf("%d is read from %v as %d, rest %v", n, b, got, r.rest)
				}
				if len(b) > 1+9 || n >= -124 && n < 124 && len(b) > 1+1 {
					t.Errorf("number %d takes %d bytes", n, len(b)-1)
				}
			}
		}
	}
}
