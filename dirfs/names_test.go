package dirfs_test

import (
	"errors"
	"fmt"
	"regexp"
	"slices"
	"strings"
	"testing"

	"lychgate/api"
	"lychgate/dirfs"
)

// letters are all that may stand in a name.
const letters = "abcdefghijklmnopqrstuvwxyz0123456789.-_"

func may(t *testing.T, name string, want bool) {
	t.Helper()
	if dirfs.May(name) != want {
		t.Errorf("May(%q): %v", name, !want)
	}
}

// P6.1: each byte, alone and at each place of the longest name.
func TestMayLetters(t *testing.T) {
	for c := range 256 {
		want := c < 128 && strings.ContainsRune(letters, rune(c))
		one := string([]byte{byte(c)})
		may(t, one, want && one != ".")
		for i := range 24 {
			may(t, strings.Repeat("x", i)+one+strings.Repeat("y", 23-i), want)
			may(t, strings.Repeat(".", i)+one+strings.Repeat(".", 23-i), want)
		}
	}
}

// P6.1: neighbours of those that may be, written out.
func TestMayNeighbours(t *testing.T) {
	for _, name := range []string{"a", "z", "0", "9", "-", "_", "a.", ".a"} {
		may(t, name, true)
	}
	for _, name := range []string{"`", "{", "/", ":", ",", "^", "A", "Z", "@", "[", " ", "\x00", "\x7f", "\xff", "é", "а", "a/b", "a b", "a\n", "\x00a"} {
		may(t, name, false)
	}
}

// P6.1: names of 1 to 24 bytes.
func TestMayLength(t *testing.T) {
	for n := range 300 {
		may(t, strings.Repeat("a", n), 1 <= n && n <= 24)
		may(t, strings.Repeat("-", n), 1 <= n && n <= 24)
	}
	may(t, strings.Repeat("é", 12), false)
	may(t, strings.Repeat("a", 1<<16), false)
	may(t, strings.Repeat("a", 256+24), false)
}

// P6.1: `.` and `..` may not be, more and fewer of them may.
func TestMayDots(t *testing.T) {
	for n := range 30 {
		may(t, strings.Repeat(".", n), 3 <= n && n <= 24)
	}
	for _, name := range []string{".a", "..a", "a.", "a..", ".-", "..."} {
		may(t, name, true)
	}
}

func splits(t *testing.T, path string, want ...string) {
	t.Helper()
	if l, err := dirfs.Split(path); err != nil || !slices.Equal(l, want) {
		t.Errorf("Split(%q): %q, %v", path, l, err)
	}
}

func splitsNot(t *testing.T, path string) {
	t.Helper()
	if l, err := dirfs.Split(path); !errors.Is(err, api.ErrName) || l != nil {
		t.Errorf("Split(%q): %q, %v", path, l, err)
	}
}

// P6.1: the names between strokes.
func TestSplit(t *testing.T) {
	long := strings.Repeat("z", 24)
	splits(t, "/")
	splits(t, "/a", "a")
	splits(t, "/a/b", "a", "b")
	splits(t, "/b/a/b", "b", "a", "b")
	splits(t, "/...", "...")
	splits(t, "/"+long+"/"+long, long, long)
	splits(t, "/-_-/0.9/..a", "-_-", "0.9", "..a")
}

// P6.1: as many names as may be, and one more.
func TestSplitDepth(t *testing.T) {
	var want []string
	for n := range 20 {
		path := "/" + strings.Join(want, "/")
		if n <= 8 {
			splits(t, path, want...)
		} else {
			splitsNot(t, path)
		}
		want = append(want, fmt.Sprint("n", n))
	}
	splitsNot(t, strings.Repeat("/a", 1<<16))
	splitsNot(t, "/"+strings.Repeat("a", 1<<16))
	splitsNot(t, strings.Repeat("/", 1<<16))
	splitsNot(t, strings.Repeat("/a", 8)+"/")
	splitsNot(t, strings.Repeat("/a", 7)+"/")
}

// P6.1: a path that doesn't begin with a stroke, or ends with one.
func TestSplitStrokes(t *testing.T) {
	for _, path := range []string{"", "a", "a/", "a/b", " /a", "\x00/a", "//", "///", "/a/", "/a/b/", "//a", "/a//b", "/a//", "\\a", "."} {
		splitsNot(t, path)
	}
}

// P6.1: a name that may not be, at each place.
func TestSplitNames(t *testing.T) {
	for _, name := range []string{".", "..", "A", "a b", "é", "\x00", "a\x00", "\xff", "*", strings.Repeat("a", 25)} {
		for n := 1; n <= 8; n++ {
			for i := range n {
				l := slices.Repeat([]string{"a"}, n)
				l[i] = name
				splitsNot(t, "/"+strings.Join(l, "/"))
			}
		}
	}
}

// paths is what the chapter says of paths, in another way, but for the names
// `.` and `..`.
var paths = regexp.MustCompile(`^(?:/|(?:/[a-z0-9._-]{1,24}){1,8})$`)

// dots finds the names `.` and `..`.
var dots = regexp.MustCompile(`/\.\.?(?:/|$)`)

func splitsRight(t *testing.T, path string) {
	t.Helper()
	switch {
	case !paths.MatchString(path) || dots.MatchString(path):
		splitsNot(t, path)
	case path == "/":
		splits(t, path)
	default:
		splits(t, path, strings.Split(path, "/")[1:]...)
	}
}

// P6.1: all short paths of some letters.
func TestSplitEverything(t *testing.T) {
	all := []string{""}
	for range 7 {
		var next []string
		for _, path := range all {
			splitsRight(t, path)
			for _, c := range []string{"/", ".", "a", "A"} {
				next = append(next, path+c)
			}
		}
		all = next
	}
}

func FuzzSplit(f *testing.F) {
	f.Add("/a/b.c/d-e_f")
	f.Add("/a/../b")
	f.Add("/a/a/a/a/a/a/a/a/")
	f.Fuzz(splitsRight)
}

// P0.3: what Split answers is new memory, spare room too.
func TestSplitIsNewMemory(t *testing.T) {
	path := "/a/b/c/d/e/f/g/h"
	l, err := dirfs.Split(path)
	if err != nil {
		t.Fatal(err)
	}
	again, _ := dirfs.Split(path)
	for i := range l[:cap(l)] {
		l[:cap(l)][i] = "x"
	}
	if strings.Join(again, "") != "abcdefgh" {
		t.Errorf("%q", again)
	}
	splits(t, path, "a", "b", "c", "d", "e", "f", "g", "h")
}
