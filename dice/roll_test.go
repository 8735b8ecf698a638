package dice_test

import (
	"math"
	"testing"

	"lychgate/dice"
)

const (
	least    = math.MinInt64
	greatest = math.MaxInt64
)

func rolls(t *testing.T, c *dice.Cup, sides int, want int64) {
	t.Helper()
	if got := c.Roll(sides); got != want {
		t.Errorf("Roll(%d): %d, want %d", sides, got, want)
	}
}

func leaves(t *testing.T, c *dice.Cup, want int) {
	t.Helper()
	if got := c.Left(); got != want {
		t.Errorf("Left: %d, want %d", got, want)
	}
}

// rollsOne holds what a die of so many sides shows for one number of the list.
func rollsOne(t *testing.T, n, sides int, want int64) {
	t.Helper()
	c := dice.New([]int{n})
	if got := c.Roll(sides); got != want {
		t.Errorf("%d by %d: %d, want %d", n, sides, got, want)
	}
	leaves(t, c, 0)
}

// P14.1: throws of several dice, each by the list's next number, and how many are left behind each.
func TestRoll(t *testing.T) {
	c := dice.New([]int{0, 7, 13, 100, 5, 2})
	leaves(t, c, 6)
	for k, r := range []struct {
		sides int
		want  int64
	}{{6, 1}, {6, 2}, {4, 2}, {20, 1}, {6, 6}, {3, 3}} {
		rolls(t, c, r.sides, r.want)
		leaves(t, c, 5-k)
	}
}

// P14.1: equal numbers, and equal dice, are throws of their own.
func TestRollEqual(t *testing.T) {
	c := dice.New([]int{3, 3, 3, 4})
	rolls(t, c, 6, 4)
	rolls(t, c, 6, 4)
	rolls(t, c, 2, 2)
	leaves(t, c, 1)
	rolls(t, c, 6, 5)
	leaves(t, c, 0)
}

// P14.1: a number that the sides divide is 1, the ones beside it the next side and the last.
func TestRollRest(t *testing.T) {
	for sides := 2; sides < 40; sides++ {
		for _, n := range []int{-3 * sides, -sides, 0, sides, 7 * sides} {
			rollsOne(t, n, sides, 1)
			rollsOne(t, n+1, sides, 2)
			rollsOne(t, n-1, sides, int64(sides))
		}
	}
}

// P14.1: the rest of a number below 0 isn't below 0.
func TestRollBelow(t *testing.T) {
	for k, want := range []int64{6, 5, 4, 3, 2, 1, 6, 5} {
		rollsOne(t, -1-k, 6, want)
	}
	rollsOne(t, -1, 2, 2)
	rollsOne(t, -1, 100, 100)
	rollsOne(t, -99, 100, 2)
	rollsOne(t, -7, 1000, 994)
}

// P14.1: a die of one side shows it, and takes a number nonetheless.
func TestRollOneSide(t *testing.T) {
	for _, n := range []int{0, 1, -1, 2, 6, -6, least, greatest} {
		rollsOne(t, n, 1, 1)
	}
}

// P14.1, P0.6: the least and the greatest numbers, the greatest number of sides, and nothing wraps.
func TestRollGreat(t *testing.T) {
	for _, r := range []struct {
		n, sides int
		want     int64
	}{
		{greatest, 2, 2}, {greatest, 6, 2}, {greatest, 7, 1}, {greatest, 10, 8},
		{least, 2, 1}, {least, 6, 5}, {least, 7, 7}, {least, 10, 3},
		{least + 1, 6, 6}, {greatest - 1, 6, 1},
		{greatest, greatest, 1}, {greatest - 1, greatest, greatest}, {greatest - 2, greatest, greatest - 1},
		{0, greatest, 1}, {1, greatest, 2}, {-1, greatest, greatest}, {-2, greatest, greatest - 1},
		{least, greatest, greatest}, {least + 1, greatest, 1}, {least + 2, greatest, 2},
		{greatest, greatest - 1, 2}, {least, greatest - 1, greatest - 2},
		{least, 1 << 62, 1}, {greatest, 1 << 62, 1 << 62}, {-1, 1 << 62, 1 << 62},
		{1 << 40, 1<<40 + 1, 1<<40 + 1}, {1<<32 + 5, 1 << 32, 6}, {5, 1 << 32, 6},
	} {
		rollsOne(t, r.n, r.sides, r.want)
	}
}

// P14.1: without a number left, and without a list, each throw is 1, however often.
func TestRollEmpty(t *testing.T) {
	none := map[string]*dice.Cup{"nil list": dice.New(nil), "empty list": dice.New([]int{}), "no New": {}}
	for name, c := range none {
		if c == nil {
			t.Fatalf("%s: no cup", name)
		}
		behindEnd(t, c)
	}
}

func behindEnd(t *testing.T, c *dice.Cup) {
	t.Helper()
	for range 100 {
		leaves(t, c, 0)
		for _, sides := range []int{1, 2, 6, 20, 1 << 40, greatest} {
			rolls(t, c, sides, 1)
		}
	}
	leaves(t, c, 0)
}

// P14.1: the list's last number counts, the one behind it is 1, and so are all others.
func TestRollBehind(t *testing.T) {
	c := dice.New([]int{2, 3})
	rolls(t, c, 6, 3)
	leaves(t, c, 1)
	rolls(t, c, 6, 4)
	leaves(t, c, 0)
	behindEnd(t, c)
}

// P14.1: without sides there is no throw: 0, and nothing is taken, wherever in the list.
func TestRollNoSides(t *testing.T) {
	l := []int{3, -1, 0, least}
	c := dice.New(l)
	for k, want := range []int64{4, 6, 1, 5} {
		noSides(t, c, 4-k)
		rolls(t, c, 6, want)
	}
	noSides(t, c, 0)
	rolls(t, c, 6, 1)
	noSides(t, c, 0)
	noSides(t, dice.New(nil), 0)
	noSides(t, &dice.Cup{}, 0)
}

func noSides(t *testing.T, c *dice.Cup, left int) {
	t.Helper()
	for _, sides := range []int{0, -1, -2, -6, -1 << 40, least, least + 1} {
		rolls(t, c, sides, 0)
		leaves(t, c, left)
	}
}

// P14.1: no cup is one without a list.
func TestRollNil(t *testing.T) {
	var c *dice.Cup
	behindEnd(t, c)
	noSides(t, c, 0)
	rolls(t, c, 6, 1)
}

// P14.1, P0.1: a long list, taken to its end.
func TestRollLong(t *testing.T) {
	const n = 1 << 20
	l := make([]int, n)
	for i := range l {
		l[i] = i - n/2
	}
	c := dice.New(l)
	for i := range l {
		if c.Left() != n-i {
			t.Fatalf("at %d: Left is %d", i, c.Left())
		}
		if got, want := c.Roll(16), int64(i%16+1); got != want {
			t.Fatalf("at %d: %d, want %d", i, got, want)
		}
	}
	behindEnd(t, c)
}
