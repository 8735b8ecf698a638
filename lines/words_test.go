package lines_test

import (
	"slices"
	"strings"
	"testing"

	"lychgate/lines"
)

// odd are texts without blanks and ends of lines of ours: controls, bytes that
// are no UTF-8, and blanks, digits and letters of other scripts.
func odd() []string {
	return []string{
		"\x00", "\x01", "\v", "\f", "\x1f", "\x7f",
		"\x80", "\x85", "\xa0", "\xff", "\xff\xfe", "\xc3", "\xa9\xc3", "\xed\xa0\x80", "\xf0\x9f\x98", "\xc0\xa0", "\xc0\x8a",
		"é", "É", "À", "Ö", "Ж", "ж", "ß", "\u0130", "\u0131", "\u017f", "\u212a", "\uff21", "\uff41",
		"\u00a0", "\u0085", "\u1680", "\u2003", "\u2028", "\u2029", "\u202f", "\u3000", "\ufeff", "\ufffd",
		"\u0663", "\u0969", "\uff15", "\u00b2", "\u00bd", "\u2167",
		"\U0001f600", "\U0010ffff",
	}
}

// texts calls f with each text of up to most of these pieces, one behind the
// other.
func texts(most int, pieces []string, f func(s string)) {
	var add func(s string, most int)
	add = func(s string, most int) {
		f(s)
		if most == 0 {
			return
		}
		for _, p := range pieces {
			add(s+p, most-1)
		}
	}
	add("", most)
}

// cuts checks what a text is cut into.
func cuts(t *testing.T, name string, cut func(s string) []string, s string, want ...string) {
	t.Helper()
	if got := cut(s); !slices.Equal(got, want) {
		t.Errorf("%s(%.60q): %.200q, want %.200q", name, s, got, want)
	}
}

func words(t *testing.T, s string, want ...string) {
	t.Helper()
	cuts(t, "Words", lines.Words, s, want...)
}

// P12.1: words between spaces and tabs, one or several.
func TestWords(t *testing.T) {
	words(t, "look", "look")
	words(t, "get sword", "get", "sword")
	words(t, "get\tsword", "get", "sword")
	words(t, "tell ann  Come \t here!", "tell", "ann", "Come", "here!")
	words(t, "a b c d e f g h", "a", "b", "c", "d", "e", "f", "g", "h")
	words(t, "room 1 hall plain 0 2 0 0 0 0 0", "room", "1", "hall", "plain", "0", "2", "0", "0", "0", "0", "0")
	words(t, "a a a", "a", "a", "a")
	words(t, "A-b_c.d,e;f", "A-b_c.d,e;f")
}

// P12.1: nothing, blanks alone, blanks ahead and behind.
func TestWordsAtTheEnds(t *testing.T) {
	words(t, "")
	for n := 1; n < 40; n++ {
		for _, blank := range []string{" ", "\t", " \t", "\t ", "\t\t "} {
			b := strings.Repeat(blank, n)
			words(t, b)
			words(t, b+"x", "x")
			words(t, "x"+b, "x")
			words(t, b+"x"+b, "x")
			words(t, b+"x"+b+"yz"+b, "x", "yz")
			words(t, "x"+b+"yz", "x", "yz")
		}
	}
}

// P12.1: each byte but a space and a tab is a part of a word, wherever it stands.
func TestWordsOfAnyBytes(t *testing.T) {
	for c := range 256 {
		s := string([]byte{byte(c)})
		if c == ' ' || c == '\t' {
			words(t, s)
			words(t, "a"+s+"b", "a", "b")
			continue
		}
		words(t, s, s)
		words(t, "a"+s+"b", "a"+s+"b")
		words(t, s+"b", s+"b")
		words(t, "a"+s, "a"+s)
		words(t, " "+s+"\t"+s+s+" ", s, s+s)
	}
}

// P12.1: other blanks, ends of lines and bytes that are no UTF-8 stay in the
// word as they are.
func TestWordsStayAsTheyAre(t *testing.T) {
	for _, s := range append(odd(), "\n", "\r", "\r\n") {
		words(t, s, s)
		words(t, s+" "+s, s, s)
		words(t, "\t"+s+"a"+s+" b"+s, s+"a"+s, "b"+s)
	}
	words(t, "a\nb c\r\n", "a\nb", "c\r\n")
	words(t, "\n \n", "\n", "\n")
	words(t, "\xc3 \xa9", "\xc3", "\xa9")
}

// modelWords tells the words in another way: each byte that is no blank belongs
// to the word of the one ahead, if that is no blank, too.
func modelWords(s string) []string {
	var l []string
	ahead := true
	for i := range len(s) {
		blank := s[i] == 32 || s[i] == 9
		switch {
		case blank:
		case ahead:
			l = append(l, s[i:i+1])
		default:
			l[len(l)-1] += s[i : i+1]
		}
		ahead = blank
	}
	return l
}

// P12.1: all texts of a few pieces.
func TestWordsAgainstModel(t *testing.T) {
	texts(6, []string{" ", "\t", "a", "b\n", "\u2003", "\xff"}, func(s string) {
		words(t, s, modelWords(s)...)
	})
}

// P0.1: long texts.
func TestManyWords(t *testing.T) {
	const n = 1 << 20
	words(t, strings.Repeat(" \t", n))
	words(t, strings.Repeat("\xff", n), strings.Repeat("\xff", n))
	words(t, strings.Repeat("ab ", n), slices.Repeat([]string{"ab"}, n)...)
}

// P0.3: what is answered is new memory, its spare room too.
func TestListsAreNew(t *testing.T) {
	cut := func(name string, cut func(s string) []string, s string, want ...string) {
		t.Helper()
		one, two := cut(s), cut(s)
		all := one[:cap(one)]
		for i := range all {
			all[i] = "scribbled"
		}
		cuts(t, name, cut, s, want...)
		if !slices.Equal(two, want) {
			t.Errorf("%s(%q): another answer became %q", name, s, two)
		}
	}
	cut("Words", lines.Words, "")
	cut("Words", lines.Words, " \t")
	cut("Words", lines.Words, "a", "a")
	cut("Words", lines.Words, "a b c d e", "a", "b", "c", "d", "e")
	cut("Lines", lines.Lines, "")
	cut("Lines", lines.Lines, "\n", "")
	cut("Lines", lines.Lines, "a", "a")
	cut("Lines", lines.Lines, "a\nb\n\nc\r\nd", "a", "b", "", "c", "d")
}
