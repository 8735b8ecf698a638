package worlddb_test

import (
	"math/rand"
	"strings"
	"testing"

	"lychgate/api"
)

// P13.1: a file with lines of each kind.
func TestParse(t *testing.T) {
	parses(t, small, smallDb())
}

// P13.1: the lists rise, whatever the lines' order.
func TestLinesInAnyOrder(t *testing.T) {
	r := rand.New(rand.NewSource(13))
	for range 300 {
		l := strings.Split(small, "\n")
		r.Shuffle(len(l), func(i, j int) { l[i], l[j] = l[j], l[i] })
		parses(t, strings.Join(l, "\n"), smallDb())
	}
	l := textOf(greatestDb())
	parses(t, strings.Join(l, "\n"), greatestDb())
	for range 20 {
		r.Shuffle(len(l), func(i, j int) { l[i], l[j] = l[j], l[i] })
		parses(t, strings.Join(l, "\n"), greatestDb())
	}
}

// P13.1: the needs and the items of a line come in any order, and rise in the
// tables.
func TestNeedsAndItemsInAnyOrder(t *testing.T) {
	base := "room 1 a shop 0 0 0 0 0 0 0\nitem 1 a none 0 0\nitem 2 b none 0 0\nitem 3 c none 0 0\n"
	db := parsed(t, base)
	db.Recipes = []api.Recipe{{Out: 2, Needs: []int{1, 2, 2, 3, 3}}}
	db.Shops = []api.Shop{{Room: 1, Till: 7, Items: []int{1, 2, 3}}}
	for _, needs := range []string{"1 2 2 3 3", "3 3 2 2 1", "3 2 3 1 2", "2 3 1 3 2"} {
		for _, items := range []string{"1 2 3", "1 3 2", "2 1 3", "2 3 1", "3 1 2", "3 2 1"} {
			parses(t, base+"recipe 2 "+needs+"\nshop 1 7 "+items, db)
		}
	}
}

// P13.1: the least and the greatest of all that may be.
func TestParseBounds(t *testing.T) {
	parses(t, strings.Join(textOf(leastDb()), "\n"), leastDb())
	parses(t, strings.Join(textOf(greatestDb()), "\n"), greatestDb())
}

// P13.1: a file that says nothing has no room.
func TestParseNothing(t *testing.T) {
	for _, s := range []string{
		"", "\n", "\r\n", "\n\n\n", " ", "\t", " \t \t ", " \n\t\r\n \t", "#", "##", "# a world", "# a world\n", "#room 1 a plain 0 0 0 0 0 0 0",
		"# a\r\n\r\n# b\r\n", "#\xff\x00\n", "#\n", "# \r", strings.Repeat("\n", 1<<16), strings.Repeat("# no\n \n", 1<<12),
	} {
		refuses(t, s, api.ErrLine)
	}
}

// P13.1: remarks and lines without words say nothing, wherever they stand.
func TestRemarks(t *testing.T) {
	for _, s := range []string{"", " ", "\t", " \t  ", "#", "# remark", "#room 1 a plain 0 0 0 0 0 0 0", "#\tfoo", "# \xff\x00é", "#\r", "## #"} {
		for _, end := range []string{"\n", "\r\n"} {
			l := strings.Split(strings.TrimSuffix(small, "\n"), "\n")
			parses(t, s+end+strings.Join(l, end+s+end)+end+s+end, smallDb())
			parses(t, strings.Join(l, end)+end+s, smallDb())
		}
	}
}

// P13.1: a remark begins with its sign, and with nothing ahead of it.
func TestNoRemarks(t *testing.T) {
	for _, s := range []string{" #", "\t#", " # a", "\xef\xbb\xbf#", "room 1 a plain 0 0 0 0 0 0 0 # a room", "\r#", "//", ";", "--", "!"} {
		noLine(t, s, 1)
		noLine(t, small+s, 23)
	}
}

// P13.1: lines end with byte 10, or with 13 and 10, the last one with nothing, too.
func TestEnds(t *testing.T) {
	parses(t, strings.ReplaceAll(small, "\n", "\r\n"), smallDb())
	parses(t, strings.TrimSuffix(small, "\n"), smallDb())
	parses(t, strings.TrimSuffix(strings.ReplaceAll(small, "\n", "\r\n"), "\r\n"), smallDb())
	parses(t, strings.Replace(small, "\n", "\r\n", 5), smallDb())
	parses(t, small+"\n\r\n", smallDb())
	room := "room 1 a plain 0 0 0 0 0 0 0"
	noLine(t, room+"\r", 1)
	noLine(t, room+"\r\r\n", 1)
	noLine(t, room+"\r"+room, 1)
	noLine(t, room+"\n\r", 2)
	noLine(t, room+"\n\r\r\n", 2)
	noLine(t, room+"\v", 1)
	noLine(t, room+"\n\f\n", 2)
	noLine(t, room+" "+room, 1)
	noLine(t, strings.Replace(room, " ", "\n", 1), 1)
}

// P13.1: one blank or several, spaces or tabs, stand between words, ahead of the
// first and behind the last.
func TestBlanks(t *testing.T) {
	for _, blank := range []string{"  ", "\t", " \t", "\t\t \t"} {
		l := strings.Split(small, "\n")
		for i, line := range l {
			if !strings.HasPrefix(line, "#") {
				l[i] = blank + strings.ReplaceAll(line, " ", blank) + blank
			}
		}
		parses(t, strings.Join(l, "\n"), smallDb())
	}
	for _, s := range []string{"\v", "\f", "\r", "\u00a0", "\u2003", "\x00", ",", "_"} {
		noLine(t, strings.ReplaceAll("room 1 a plain 0 0 0 0 0 0 0", " ", s), 1)
		noLine(t, "room 1 a plain 0 0 0 0 0 0"+s+"0", 1)
		noLine(t, s+"room 1 a plain 0 0 0 0 0 0 0", 1)
	}
}

// P13.1: the first wrong line counts, remarks and lines without words counted.
func TestFirstWrongLine(t *testing.T) {
	noLine(t, "foo", 1)
	noLine(t, "#\n\nfoo", 3)
	noLine(t, "#\r\n\r\nfoo\r\n", 3)
	noLine(t, "foo\nbar\nroom 1", 1)
	noLine(t, "room 1 a plain 0 0 0 0 0 0 0\nfoo\nbar", 2)
	l := strings.Split(strings.TrimSuffix(small, "\n"), "\n")
	for i := range len(l) + 1 {
		for _, wrong := range []string{"foo", "room", "item 1 a none 101 0"} {
			ahead, behind := strings.Join(l[:i], "\n")+"\n", strings.Join(l[i:], "\n")
			if i == 0 {
				ahead = ""
			}
			noLine(t, ahead+wrong+"\n"+behind, i+1)
			noLine(t, ahead+wrong+"\n"+wrong+"\n"+behind+"\nbar", i+1)
			noLine(t, strings.ReplaceAll(ahead+wrong+"\n"+behind, "\n", "\r\n"), i+1)
		}
	}
	noLine(t, strings.Repeat("\n", 1<<18)+"foo", 1<<18+1)
	noLine(t, strings.Repeat("#\r\n", 1<<18)+small+"foo", 1<<18+23)
}

// P13.1: a wrong line counts ahead of what Check says, wherever either stands.
func TestWrongLineAheadOfCheck(t *testing.T) {
	room := "room 1 a plain 0 0 0 0 0 0 0\n"
	many := strings.Repeat(room, 61)
	for _, s := range []string{
		room + room, many, "item 1 a none 0 0\n", room + "room 2 b plain 0 3 0 0 0 0 0\n", room + "mob 1 a 9 1 0 0 0\n",
		room + "shop 1 0\n", room + "recipe 1 1\n", room + "item 1 a none 0 0\nshop 1 0 1 1\n",
	} {
		n := strings.Count(s, "\n")
		noLine(t, s+"foo", n+1)
		noLine(t, "foo\n"+s, 1)
		noLine(t, "#\nfoo\n"+s, 2)
	}
}

// P13.1: where all lines are such, Check's errors come out.
func TestParseTellsCheck(t *testing.T) {
	room := "room 1 a shop 0 0 0 0 0 0 0\n"
	items := "item 1 a none 0 0\nitem 2 b none 0 0\n"
	for _, s := range []string{
		items, "mob 1 a 1 1 0 0 0", room + room, room + "room 1 b plain 0 0 0 0 0 0 0\n", room + items + "item 1 c none 0 0",
		room + "mob 1 a 1 1 0 0 0\nmob 1 b 1 1 0 0 0", room + items + "recipe 1 2\nrecipe 1 1", room + items + "quest 1 1 1 0 0\nquest 1 2 1 0 0",
		room + "shop 1 0\nshop 1 0", room + items + "shop 1 0 1 1", room + items + "shop 1 0 2 1 2",
		room + "room 2 b shop 0 9 0 0 0 0 0\n" + room, room + items + "shop 1 0 9 9", room + items + "recipe 9 9\nrecipe 9 8",
	} {
		refuses(t, s, api.ErrLine)
	}
	for _, s := range []string{
		"room 1 a plain 0 2 0 0 0 0 0", "room 1 a plain 0 0 0 0 0 0 1000", room + "mob 1 a 2 1 0 0 0", room + "recipe 1 1", room + items + "recipe 3 1",
		room + items + "recipe 1 1 2 3", room + items + "recipe 1 3 1 2", room + items + "quest 1 3 1 0 0", room + items + "quest 1 1 1 0 3",
		room + items + "shop 2 0 1", room + items + "shop 1 0 3", room + items + "shop 1 0 3 1 2", room + "room 2 b plain 0 0 0 0 0 0 0\nshop 2 0",
	} {
		refuses(t, s, api.ErrNotFound)
	}
}

// P13.1: one row more than a list has room for is Check's error, not a line's.
func TestParseTooManyRows(t *testing.T) {
	full := strings.Join(textOf(greatestDb()), "\n") + "\n"
	for _, s := range []string{
		"room 1 a plain 0 0 0 0 0 0 0", "item 1 a none 0 0", "mob 1 a 1000 1 0 0 0", "recipe 1 1000", "quest 1 1000 1 0 0", "shop 1 0",
	} {
		refuses(t, full+s, api.ErrLine)
		refuses(t, s+"\n"+full, api.ErrLine)
	}
}

// P0.1: long texts, long lines and many rows.
func TestLongTexts(t *testing.T) {
	const n = 1 << 18
	parses(t, strings.Repeat("\n", n)+small+strings.Repeat("# more\r\n", n), smallDb())
	parses(t, "#"+strings.Repeat(" 1", n)+"\n"+small+strings.Repeat(" ", n), smallDb())
	parses(t, "#"+strings.Repeat("\xff", n)+"\n"+strings.ReplaceAll(small, "room", strings.Repeat("\t", 1000)+"room"), smallDb())
	noLine(t, small+strings.Repeat("x", n), 23)
	noLine(t, small+"recipe 4"+strings.Repeat(" 7", n), 23)
	noLine(t, small+"shop 30 0"+strings.Repeat(" 7", n), 23)
	noLine(t, small+"room"+strings.Repeat(" 0", n), 23)
	noLine(t, small+"item 5 "+strings.Repeat("a", n)+" none 0 0", 23)
	noLine(t, small+"item "+strings.Repeat("9", n)+" a none 0 0", 23)
	for _, s := range []string{"room 1 a plain 0 0 0 0 0 0 0", "item 1 a none 0 0", "mob 1 a 1 1 0 0 0", "recipe 1 1 1", "quest 1 1 1 0 0", "shop 1 0 1"} {
		refuses(t, strings.Repeat(s+"\n", 1<<15), api.ErrLine)
	}
}
