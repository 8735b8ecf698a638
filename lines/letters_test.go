package lines_test

import (
	"strings"
	"testing"

	"lychgate/lines"
)

func lowers(t *testing.T, s, want string) {
	t.Helper()
	if got := lines.Lower(s); got != want {
		t.Errorf("Lower(%.60q): %.60q, want %.60q", s, got, want)
	}
}

// P12.1: great letters become small ones, and nothing else becomes anything else.
func TestLower(t *testing.T) {
	lowers(t, "", "")
	lowers(t, "look", "look")
	lowers(t, "LOOK", "look")
	lowers(t, "Get Sword", "get sword")
	lowers(t, "ABCDEFGHIJKLMNOPQRSTUVWXYZ", "abcdefghijklmnopqrstuvwxyz")
	lowers(t, "abcdefghijklmnopqrstuvwxyz", "abcdefghijklmnopqrstuvwxyz")
	lowers(t, "@AZ[`az{", "@az[`az{")
	lowers(t, " A\tB\r\nC0129-_!", " a\tb\r\nc0129-_!")
}

// P12.1: each byte and each pair of bytes.
func TestLowerBytes(t *testing.T) {
	var to [256]byte
	for c := range to {
		to[c] = byte(c)
	}
	for i, c := range "ABCDEFGHIJKLMNOPQRSTUVWXYZ" {
		to[c] = "abcdefghijklmnopqrstuvwxyz"[i]
	}
	for c := range to {
		lowers(t, string([]byte{byte(c)}), string([]byte{to[c]}))
		for d := range to {
			lowers(t, string([]byte{byte(c), byte(d)}), string([]byte{to[c], to[d]}))
		}
	}
}

// P12.1: letters of other scripts, and bytes that are no UTF-8, stay as they are.
func TestLowerStays(t *testing.T) {
	for _, s := range odd() {
		lowers(t, s, s)
		lowers(t, "A"+s+"B", "a"+s+"b")
		lowers(t, s+"Z"+s, s+"z"+s)
	}
}

// P12.1, P0.1: long texts.
func TestLowerLong(t *testing.T) {
	const n = 1 << 20
	lowers(t, strings.Repeat("A\xffé", n), strings.Repeat("a\xffé", n))
	lowers(t, strings.Repeat("a", n), strings.Repeat("a", n))
}

func word(t *testing.T, s string, want bool) {
	t.Helper()
	if lines.Word(s) != want {
		t.Errorf("Word(%.60q): %v", s, !want)
	}
}

// P12.1: words of letters, and neighbours of letters.
func TestWord(t *testing.T) {
	for _, s := range []string{"a", "z", "m", "az", "look", "sword", "abcdefghijklmnopqrstuvwx", "cdefghijklmnopqrstuvwxyz"} {
		word(t, s, true)
	}
	for _, s := range []string{"", "A", "Z", "`", "{", "@", "[", "0", "9", "-", "_", ".", " ", "\t", "\n", "Look", "looK", "two words", " a", "a ", "a\n", "a\r\n", "a1", "1a", "a-b", "a_b", "\x00", "a\x00", "\x7f"} {
		word(t, s, false)
	}
}

// P12.1: 1 to 24 letters.
func TestWordLength(t *testing.T) {
	for n := range 600 {
		for c := 'a'; c <= 'z'; c++ {
			word(t, strings.Repeat(string(c), n), 1 <= n && n <= 24)
		}
	}
	word(t, strings.Repeat("a", 1<<16+24), false)
	word(t, strings.Repeat("a", 1<<20), false)
	// These have 24 letters and fewer, but of more bytes than one.
	word(t, strings.Repeat("é", 12), false)
	word(t, strings.Repeat("é", 24), false)
}

// P12.1: each byte, at each place of a word of each length.
func TestWordBytes(t *testing.T) {
	for c := range 256 {
		one := string([]byte{byte(c)})
		want := strings.Contains("abcdefghijklmnopqrstuvwxyz", one)
		for n := range 24 {
			for i := range n + 1 {
				word(t, strings.Repeat("x", i)+one+strings.Repeat("y", n-i), want)
			}
		}
		word(t, strings.Repeat("x", 24)+one, false)
		word(t, one+strings.Repeat("x", 24), false)
	}
}

// P12.1: letters of other scripts, and bytes that are no UTF-8, are no letters.
func TestWordOfOthers(t *testing.T) {
	for _, s := range odd() {
		word(t, s, false)
		word(t, "a"+s, false)
		word(t, s+"a", false)
		word(t, "a"+s+"z", false)
	}
}

// P0.1, P0.5: whatever a text is, each call answers, and the same again.
func FuzzAll(f *testing.F) {
	for _, s := range append(odd(), "", " a \tb\t", "a\r\n\nb\r", "1099511627776", "AbZ@[é", strings.Repeat("z", 24)) {
		f.Add(s)
	}
	f.Fuzz(func(t *testing.T, s string) {
		words(t, s, modelWords(s)...)
		cutLines(t, s, modelLines(s)...)
		isModelNumber(t, s)
		low := lines.Lower(s)
		lowers(t, low, low)
		if len(low) != len(s) || !strings.EqualFold(low, s) {
			t.Errorf("Lower(%q): %q", s, low)
		}
		word(t, s, len(s) <= 24 && s != "" && strings.Trim(s, "abcdefghijklmnopqrstuvwxyz") == "")
	})
}
