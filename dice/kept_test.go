package dice_test

import (
	"math/big"
	"math/rand"
	"slices"
	"testing"

	"lychgate/dice"
)

// P14.1, P0.3: what comes in to New stays as it is, its spare room too.
func TestListStays(t *testing.T) {
	room := []int{-1, 5, 6, 1000, 7, 8, 9}
	was := slices.Clone(room)
	c := dice.New(room[1:4])
	for range 10 {
		c.Roll(6)
		c.Roll(0)
		c.Left()
	}
	if !slices.Equal(room, was) {
		t.Errorf("the list has become %v", room)
	}
}

// P14.1, P0.3: a cup keeps its numbers, whatever is written to the list that it was made of.
func TestListWritten(t *testing.T) {
	l := []int{1, 2, 3, 4, 5, 6}
	c := dice.New(l[:4])
	for i := range l {
		l[i] = 0
	}
	l = append(l[:4], 5, 5)
	for k, want := range []int64{2, 3, 4, 5, 1} {
		rolls(t, c, 6, want)
		for i := range l {
			l[i] = k + 7
		}
	}
	leaves(t, c, 0)
}

// P14.1, P0.3: two cups of one list go their own ways.
func TestTwoCups(t *testing.T) {
	l := []int{0, 1, 2, 3}
	a, b := dice.New(l), dice.New(l)
	for k := range l {
		rolls(t, a, 6, int64(k+1))
		leaves(t, a, 3-k)
		leaves(t, b, 4)
	}
	rolls(t, a, 6, 1)
	rolls(t, b, 6, 1)
	leaves(t, b, 3)
	c := dice.New(l[1:])
	rolls(t, c, 6, 2)
	rolls(t, b, 6, 2)
	rolls(t, b, 6, 3)
	leaves(t, c, 2)
	leaves(t, b, 1)
	rolls(t, c, 6, 3)
	rolls(t, b, 6, 4)
	rolls(t, a, 6, 1)
}

// P14.1, P0.5: Left changes nothing, however often it is asked.
func TestLeftOnly(t *testing.T) {
	c := dice.New([]int{4, 2})
	for range 1000 {
		leaves(t, c, 2)
	}
	rolls(t, c, 6, 5)
	rolls(t, c, 6, 3)
}

// wide picks numbers of all sizes, so that small sides meet great numbers and great sides small ones.
func wide(r *rand.Rand) int {
	return int(r.Uint64()) >> r.Intn(64)
}

// shows reckons a throw by numbers that can't wrap.
func shows(n, sides int) int64 {
	m := new(big.Int).Mod(big.NewInt(int64(n)), big.NewInt(int64(sides)))
	return m.Add(m, big.NewInt(1)).Int64()
}

// P14.1: cups beside a plain model of them.
func TestModel(t *testing.T) {
	r := rand.New(rand.NewSource(14))
	for range 2000 {
		l := make([]int, r.Intn(12))
		for i := range l {
			l[i] = wide(r)
		}
		c := dice.New(l)
		for range 20 {
			l = modelStep(t, c, l, wide(r))
		}
	}
}

func modelStep(t *testing.T, c *dice.Cup, l []int, sides int) []int {
	t.Helper()
	want := int64(1)
	switch {
	case sides < 1:
		want = 0
	case len(l) > 0:
		want = shows(l[0], sides)
		l = l[1:]
	}
	rolls(t, c, sides, want)
	leaves(t, c, len(l))
	return l
}

// P14.1: any number and any die.
func FuzzRoll(f *testing.F) {
	f.Add(-1, 6)
	f.Add(least, greatest)
	f.Add(greatest, greatest)
	f.Add(5, 0)
	f.Fuzz(func(t *testing.T, n, sides int) {
		c := dice.New([]int{n})
		modelStep(t, c, modelStep(t, c, []int{n}, sides), sides)
	})
}
