package worlddb_test

import (
	"errors"
	"fmt"
	"slices"
	"strings"
	"testing"

	"lychgate/worlddb"
)

// class is which words may stand at a place of a line, and some that may not.
type class struct{ good, bad []string }

// oddWords are no names, numbers, kinds or slots.
func oddWords() []string {
	return []string{
		"-", "+", ".", "#", "-1", "+1", "-0", "+0", "--1", "1.0", "1.", ".5", "1e1", "0x1", "1_0", "1,0", "1a", "a1", "01", "00", "007", "0001000",
		"1099511627777", "9223372036854775807", "9223372036854775808", "18446744073709551616", "18446744073709551617", "99999999999999999999999999",
		"A", "Abc", "aBc", "two-words", "a.b", "a_b", "\x00", "\x7f", "\r", "1\r", "a\r", "\v1", "\xff", "a\xff", "1\xff", "\xc3", "é", "aé", "\u0663", "\uff11", "\u2003",
	}
}

// numbers is the class of those from least to most.
func numbers(least, most int64) class {
	c := class{bad: append(oddWords(), "a", "none", "plain")}
	for n := least; n < least+5; n++ {
		c.good = append(c.good, fmt.Sprint(n))
	}
	for _, n := range []int64{most / 2, most/2 + 1, most - 1, most} {
		c.good = append(c.good, fmt.Sprint(max(n, least)))
	}
	for _, n := range []int64{least - 1, most + 1, most + 2, most + 10, most * 2, most*10 + 1, 1<<32 + least, 1 << 40} {
		c.bad = append(c.bad, fmt.Sprint(n))
	}
	return c
}

// texts is the class of just those words.
func texts(good ...string) class {
	c := class{good: good, bad: append(oddWords(), "0", "1", "x", "cave", "head")}
	for _, s := range good {
		c.bad = append(c.bad, s+"s", s[1:]+s[:1], s[:len(s)-1], strings.ToUpper(s), strings.ToUpper(s[:1])+s[1:], s+"\x00")
	}
	return c
}

func names() class {
	return class{
		good: []string{"a", "z", "gate", "room", "none", "shop", strings.Repeat("a", 23), strings.Repeat("z", 24), "abcdefghijklmnopqrstuvwx"},
		bad:  append(oddWords(), "0", "1", "12", strings.Repeat("a", 25), strings.Repeat("z", 26), strings.Repeat("a", 256+24), strings.Repeat("é", 12), "`", "{"),
	}
}

func classes() map[string]class {
	return map[string]class{
		"id":    numbers(1, 1000),
		"exit":  numbers(0, 1000),
		"name":  names(),
		"kind":  texts("plain", "shop", "bank", "forge", "house", "hall"),
		"slot":  texts("none", "wield", "body"),
		"power": numbers(0, 100),
		"gold":  numbers(0, 1<<30),
		"hp":    numbers(1, 10000),
		"xp":    numbers(0, 10000),
		"count": numbers(1, 5),
	}
}

// shapes are the lines that there are: the word at the head, and the class at
// each place behind it.
func shapes() []string {
	l := []string{
		"room id name kind gold exit exit exit exit exit exit",
		"item id name slot power gold",
		"mob id name id hp power xp gold",
		"quest id id count gold exit",
	}
	for n := range 9 {
		if 1 <= n && n <= 5 {
			l = append(l, "recipe id"+strings.Repeat(" id", n))
		}
		l = append(l, "shop id gold"+strings.Repeat(" id", n))
	}
	return l
}

// plainLine answers a line of a shape.
func plainLine(shape string) []string {
	l := strings.Fields(shape)
	all := classes()
	for i := 1; i < len(l); i++ {
		l[i] = all[l[i]].good[0]
	}
	return l
}

// isLine checks whether Parse takes a text's one line. What else may be wrong is
// told by Check.
func isLine(t testing.TB, words []string, want bool) {
	t.Helper()
	line := strings.Join(words, " ")
	if !want {
		noLine(t, line, 1)
		return
	}
	var e *worlddb.LineError
	if _, err := worlddb.Parse(line); errors.As(err, &e) {
		t.Errorf("Parse(%.300q): %v", line, err)
	}
}

// P13.1: each word that may stand at a place, and those that may not.
func TestPlaces(t *testing.T) {
	all := classes()
	for _, shape := range shapes() {
		for i, name := range strings.Fields(shape) {
			if i == 0 {
				continue
			}
			for _, w := range all[name].good {
				l := plainLine(shape)
				l[i] = w
				isLine(t, l, true)
			}
			for _, w := range all[name].bad {
				l := plainLine(shape)
				l[i] = w
				isLine(t, l, false)
			}
		}
	}
}

// P13.1: each byte alone in the place of a word.
func TestBytesOfWords(t *testing.T) {
	// Those of them that are words of the class.
	alone := map[string]string{
		"id": "123456789", "exit": "0123456789", "name": "abcdefghijklmnopqrstuvwxyz", "power": "0123456789", "gold": "0123456789",
		"hp": "123456789", "xp": "0123456789", "count": "12345", "kind": "", "slot": "",
	}
	for _, shape := range shapes() {
		for i, name := range strings.Fields(shape) {
			for c := range 256 {
				s := string([]byte{byte(c)})
				if i == 0 || s == " " || s == "\t" || s == "\n" {
					continue
				}
				l := plainLine(shape)
				l[i] = s
				isLine(t, l, strings.Contains(alone[name], s))
			}
		}
	}
}

// P13.1: a word that lacks, at each place, and one or more too many.
func TestNumberOfWords(t *testing.T) {
	for _, shape := range shapes()[:4] {
		l := plainLine(shape)
		isLine(t, l, true)
		for n := range l {
			if n > 0 {
				isLine(t, l[:n], false)
			}
			isLine(t, slices.Delete(slices.Clone(l), n, n+1), false)
		}
		for _, w := range append(oddWords(), "0", "1", "7", "1000", "x", "room", "plain", "none") {
			isLine(t, append(slices.Clone(l), w), false)
			isLine(t, append(slices.Clone(l), w, w), false)
			for n := 1; n < len(l); n++ {
				isLine(t, slices.Insert(slices.Clone(l), n, w), false)
			}
		}
	}
}

// P13.1: a recipe has one to five needs, a shop no to eight items.
func TestNumberOfNeedsAndItems(t *testing.T) {
	isLine(t, []string{"recipe"}, false)
	isLine(t, []string{"shop"}, false)
	isLine(t, []string{"shop", "1"}, false)
	for n := range 300 {
		ids := slices.Repeat([]string{"7"}, n)
		isLine(t, append([]string{"recipe", "1"}, ids...), 1 <= n && n <= 5)
		isLine(t, append([]string{"shop", "1", "0"}, ids...), n <= 8)
	}
}

// P13.1: lines of other heads are none.
func TestHeads(t *testing.T) {
	for _, shape := range shapes() {
		l := plainLine(shape)
		head := l[0]
		for _, w := range append(oddWords(), "Room", "ROOM", "rooms", "roo", "r", "object", "proto", "mobile", "npc", "exit", "house", "lot", "x", "0", "1",
			head+"s", head[1:], head[:len(head)-1], strings.ToUpper(head), head+":", head+"\xff", "\xff"+head) {
			l[0] = w
			if w != "#" {
				isLine(t, l, false)
			}
		}
		isLine(t, l[1:], false)
	}
}

// P13.1: the words of one kind of line behind the head of another.
func TestMixedHeads(t *testing.T) {
	heads := []string{"room", "item", "mob", "recipe", "quest", "shop"}
	for _, shape := range shapes()[:3] {
		l := plainLine(shape)
		own := l[0]
		for _, head := range heads {
			l[0] = head
			isLine(t, l, head == own)
		}
	}
}
