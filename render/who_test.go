package render_test

import (
	"math"
	"strings"
	"testing"

	"lychgate/api"
	"lychgate/entity"
	"lychgate/render"
)

// P17.1: of each character, On or not.
func TestScore(t *testing.T) {
	w := town()
	score := func(name, want string) {
		t.Helper()
		tells(t, "Score", render.Score(w, name), name, want)
	}
	score("ann", "Level 2, 150 xp, 23 of 25 hp, 100 gold, 7 in the bank.")
	score("bob", "Level 1, 0 xp, 20 of 20 hp, 90 gold, 0 in the bank.")
	score("cid", "Level 1, 0 xp, 1 of 20 hp, 0 gold, 12 in the bank.")
	score("dan", "Level 11, 1000 xp, 70 of 70 hp, 5 gold, 0 in the bank.")
}

// P17.1: points at the ends of levels, gold at the ends, and numbers that no
// world has.
func TestScoreNumbers(t *testing.T) {
	for _, x := range []struct {
		xp, hp, gold, bank int64
		want               string
	}{
		{0, 20, 0, 0, "Level 1, 0 xp, 20 of 20 hp, 0 gold, 0 in the bank."},
		{1, 2, 3, 4, "Level 1, 1 xp, 2 of 20 hp, 3 gold, 4 in the bank."},
		{99, 20, 1, 0, "Level 1, 99 xp, 20 of 20 hp, 1 gold, 0 in the bank."},
		{100, 25, 0, 1, "Level 2, 100 xp, 25 of 25 hp, 0 gold, 1 in the bank."},
		{199, 1, 10, 100, "Level 2, 199 xp, 1 of 25 hp, 10 gold, 100 in the bank."},
		{200, 30, 1000, 10000, "Level 3, 200 xp, 30 of 30 hp, 1000 gold, 10000 in the bank."},
		{999, 65, 7, 70, "Level 10, 999 xp, 65 of 65 hp, 7 gold, 70 in the bank."},
		{most, 1, most, most, "Level 10995116278, 1099511627776 xp, 1 of 54975581405 hp, 1099511627776 gold, 1099511627776 in the bank."},
		{most, 54975581405, 0, most, "Level 10995116278, 1099511627776 xp, 54975581405 of 54975581405 hp, 0 gold, 1099511627776 in the bank."},
		{-1, 0, -1, -2, "Level 1, -1 xp, 0 of 20 hp, -1 gold, -2 in the bank."},
		{math.MinInt64, math.MinInt64, math.MinInt64, math.MinInt64, "Level 1, -9223372036854775808 xp, -9223372036854775808 of 20 hp, -9223372036854775808 gold, -9223372036854775808 in the bank."},
		{math.MaxInt64, math.MaxInt64, math.MaxInt64, math.MaxInt64, "Level 92233720368547759, 9223372036854775807 xp, 9223372036854775807 of 461168601842738810 hp, 9223372036854775807 gold, 9223372036854775807 in the bank."},
	} {
		w := town()
		c := &w.Chars[4]
		c.Xp, c.Hp, c.Gold, c.Bank = x.xp, x.hp, x.gold, x.bank
		tells(t, "Score", render.Score(w, "eve"), "eve", x.want)
	}
}

// P17.1: all that are On, wherever they are and whoever asks.
func TestWho(t *testing.T) {
	w := town()
	for _, c := range w.Chars {
		tells(t, "Who", render.Who(w, c.Name), c.Name, "Here are: Ann Bob Dan Eve Gus")
	}
	for i := range w.Chars {
		w.Chars[i].On = i == 3
	}
	tells(t, "one", render.Who(w, "dan"), "dan", "Here are: Dan")
	tells(t, "one", render.Who(w, "ann"), "ann", "Here are: Dan")
	w.Chars[3].On = false
	tells(t, "none", render.Who(w, "ann"), "ann", "Here are:")
	tells(t, "alone", render.Who(only("eve"), "eve"), "eve", "Here are: Eve")
	for i := range w.Chars {
		w.Chars[i].On, w.Chars[i].Room = true, []int{0, 80, -1, 99, math.MinInt, math.MaxInt, 10}[i]
	}
	tells(t, "all", render.Who(w, "ann"), "ann", "Here are: Ann Bob Cid Dan Eve Fay Gus")
}

// P17.1: as many characters as a world has room for.
func TestWhoMost(t *testing.T) {
	w := entity.New(tables(t))
	small, great := names(24)
	for k, name := range small {
		w.Chars = append(w.Chars, api.Char{Name: name, Hash: hash, On: true, Room: []int{10, 20, 80}[k%3], Hp: 20})
	}
	for _, name := range small {
		tells(t, "Who", render.Who(w, name), name, "Here are: "+strings.Join(great, " "))
	}
}

// P17.1: every name has a great letter ahead and is as it was behind that; what
// begins with no letter a to z stays as it is.
func TestGreatLetters(t *testing.T) {
	cases := map[string]string{"": "", "a": "A", "z": "Z", "Ann": "Ann", "aNN": "ANN", "a b": "A b", " ann": " ann", "1a": "1a", "éa": "éa", "ß": "ß", "aé\xff": "Aé\xff", "\xffa": "\xffa", "\x00": "\x00", "`a": "`a", "{a": "{a", "@a": "@a", "[a": "[a", "\xe1": "\xe1", "ⓐ": "ⓐ"}
	for c := byte('a'); c <= 'z'; c++ {
		cases[string([]byte{c, c, c})] = string([]byte{c - 32, c, c})
	}
	for name, want := range cases {
		w := &api.World{Chars: []api.Char{{Name: name, On: true, Room: 80}, {Name: "other", On: true, Room: 80}}}
		tells(t, "Who", render.Who(w, name), name, "Here are: "+want+" Other")
		tells(t, "Who", render.Who(w, "other"), "other", "Here are: "+want+" Other")
		tells(t, "Room", render.Room(w, tables(t), "other"), "other", "cell", "Exits: none", want+" is here.")
		tells(t, "Room", render.Room(w, tables(t), name), name, "cell", "Exits: none", "Other is here.")
	}
}

// P17.1: the six directions, and none beside them.
func TestDir(t *testing.T) {
	for d, want := range []string{"north", "east", "south", "west", "up", "down"} {
		if got := render.Dir(d); got != want {
			t.Errorf("Dir(%d): %q, want %q", d, got, want)
		}
	}
	for _, d := range []int{-1, -2, -6, 6, 7, 12, 100, 1 << 32, 1<<32 + 1, -1 << 32, 1 << 62, math.MinInt32, math.MaxInt32, math.MinInt, math.MinInt + 1, math.MaxInt} {
		if got := render.Dir(d); got != "" {
			t.Errorf("Dir(%d): %q", d, got)
		}
	}
}
