package lines_test

import (
	"slices"
	"strings"
	"testing"

	"lychgate/lines"
)

func cutLines(t *testing.T, s string, want ...string) {
	t.Helper()
	cuts(t, "Lines", lines.Lines, s, want...)
}

// P12.1: lines that end with a byte 10, or with bytes 13 and 10.
func TestLines(t *testing.T) {
	cutLines(t, "look\n", "look")
	cutLines(t, "look\r\n", "look")
	cutLines(t, "get sword\nwear it\n", "get sword", "wear it")
	cutLines(t, "get sword\r\nwear it\r\n", "get sword", "wear it")
	cutLines(t, "a\nb\r\nc\nd\r\n", "a", "b", "c", "d")
	cutLines(t, "# a world\nroom 1 hall plain 0 0 0 0 0 0 0\n", "# a world", "room 1 hall plain 0 0 0 0 0 0 0")
	cutLines(t, "\ta  b \n b\t\n", "\ta  b ", " b\t")
}

// P12.1: behind the last byte 10 there is a line if something stands there, be it
// a blank or a byte 13.
func TestLinesEnd(t *testing.T) {
	cutLines(t, "")
	cutLines(t, "a", "a")
	cutLines(t, "a\n", "a")
	cutLines(t, "a\nb", "a", "b")
	cutLines(t, "a\nb\n", "a", "b")
	cutLines(t, "a\n ", "a", " ")
	cutLines(t, "a\r\n\t", "a", "\t")
	cutLines(t, "a\n\r", "a", "\r")
	cutLines(t, "a\nb\r", "a", "b\r")
	cutLines(t, " ", " ")
	cutLines(t, "a\n\x00", "a", "\x00")
}

// P12.1: empty lines, at all places.
func TestEmptyLines(t *testing.T) {
	for n := 1; n < 40; n++ {
		for _, end := range []string{"\n", "\r\n"} {
			empty := make([]string, n)
			s := strings.Repeat(end, n)
			cutLines(t, s, empty...)
			cutLines(t, s+"a", append(slices.Clone(empty), "a")...)
			cutLines(t, "a"+s, append([]string{"a"}, empty[1:]...)...)
			cutLines(t, "a"+end+s+"b"+end, slices.Concat([]string{"a"}, empty, []string{"b"})...)
		}
	}
	cutLines(t, "\n\r\n\n", "", "", "")
}

// P12.1: a byte 13 goes with the byte 10 behind it, but no other one does.
func TestBytes13(t *testing.T) {
	cutLines(t, "\r", "\r")
	cutLines(t, "\r\r", "\r\r")
	cutLines(t, "\r\r\n", "\r")
	cutLines(t, "\r\r\r\n\r", "\r\r", "\r")
	cutLines(t, "a\rb", "a\rb")
	cutLines(t, "a\rb\n", "a\rb")
	cutLines(t, "\ra\r\n", "\ra")
	cutLines(t, "a\r \n", "a\r ")
	cutLines(t, "\n\r", "", "\r")
	cutLines(t, "\n\ra", "", "\ra")
	cutLines(t, "\n\r\n", "", "")
	cutLines(t, "a\n\r\rb\r\r\nc\r", "a", "\r\rb\r", "c\r")
	for n := range 40 {
		s := strings.Repeat("\r", n)
		cutLines(t, s+"\r\n", s)
		cutLines(t, "a"+s+"\r\nb", "a"+s, "b")
	}
}

// P12.1: each other byte is a part of a line, wherever it stands.
func TestLinesOfAnyBytes(t *testing.T) {
	for c := range 256 {
		s := string([]byte{byte(c)})
		if c == '\n' || c == '\r' {
			continue
		}
		cutLines(t, s, s)
		cutLines(t, s+"\n", s)
		cutLines(t, "a"+s+"b\r\n"+s+s, "a"+s+"b", s+s)
		cutLines(t, "\n"+s+"\r\n\n"+s+"\r", "", s, "", s+"\r")
	}
}

// P12.1: ends of lines of other kinds, and bytes that are no UTF-8, stay in the
// line as they are.
func TestLinesStayAsTheyAre(t *testing.T) {
	for _, s := range odd() {
		cutLines(t, s, s)
		cutLines(t, s+"\n"+s, s, s)
		cutLines(t, "a"+s+"\r\n"+s+"b\n", "a"+s, s+"b")
	}
	cutLines(t, "\xc3\n\xa9", "\xc3", "\xa9")
	cutLines(t, "\xc3\r\n\xa9\r\n", "\xc3", "\xa9")
}

// modelLines tells the lines in another way: it goes from byte to byte, and takes
// a byte 13 back when a byte 10 comes.
func modelLines(s string) []string {
	var l []string
	line := ""
	for i := range len(s) {
		if s[i] != 10 {
			line += s[i : i+1]
			continue
		}
		if k := len(line) - 1; k >= 0 && line[k] == 13 {
			line = line[:k]
		}
		l = append(l, line)
		line = ""
	}
	if line != "" {
		l = append(l, line)
	}
	return l
}

// P12.1: all texts of a few bytes.
func TestLinesAgainstModel(t *testing.T) {
	texts(7, []string{"\n", "\r", "a", " ", "\xff"}, func(s string) {
		cutLines(t, s, modelLines(s)...)
	})
}

// P0.1: long texts.
func TestManyLines(t *testing.T) {
	const n = 1 << 20
	cutLines(t, strings.Repeat("\n", n), make([]string, n)...)
	cutLines(t, strings.Repeat("\r", n)+"\n", strings.Repeat("\r", n-1))
	cutLines(t, strings.Repeat("\xff", n), strings.Repeat("\xff", n))
	cutLines(t, strings.Repeat("ab\r\n", n), slices.Repeat([]string{"ab"}, n)...)
}
