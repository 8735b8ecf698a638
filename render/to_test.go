package render_test

import (
	"math"
	"strings"
	"testing"

	"lychgate/api"
	"lychgate/entity"
	"lychgate/render"
)

// P17.1: rooms with none, one and several that are On, with and without one to
// leave out.
func TestTo(t *testing.T) {
	w := town()
	to := func(room int, but string, want ...string) {
		t.Helper()
		var l []api.Say
		for _, name := range want {
			l = append(l, api.Say{To: name, Text: "Rain falls."})
		}
		says(t, show([]any{room, but}), render.To(w, room, but, "Rain falls."), l...)
	}
	to(10, "", "ann", "dan")
	to(10, "ann", "dan")
	to(10, "dan", "ann")
	to(40, "", "bob")
	to(40, "bob")
	to(80, "", "eve")
	to(20, "", "gus")
	to(30, "")
	to(30, "ann")
	// Those who are elsewhere, who aren't On or whom there are none of are left out anyhow.
	for _, but := range []string{"bob", "cid", "zoe", "Ann", "ANN", "an", "anna", " ann", "rat", "\xff", "\x00", strings.Repeat("a", 100000)} {
		to(10, but, "ann", "dan")
	}
	w.Chars[2].On = true
	to(10, "", "ann", "cid", "dan")
	to(10, "cid", "ann", "dan")
	for _, room := range []int{0, 1, 3, 11, 21, 99, 1000, -1, -10, math.MinInt, math.MaxInt} {
		to(room, "")
		to(room, "ann")
	}
	for i := range w.Chars {
		w.Chars[i].On = false
	}
	to(10, "")
}

// P17.1, P0.1: whoever stands in a room that there is none of hears what is told
// there.
func TestToRoomThatIsNone(t *testing.T) {
	for _, room := range []int{0, 99, -1, math.MinInt, math.MaxInt} {
		w := town()
		w.Chars[0].Room, w.Chars[6].Room, w.Chars[5].Room = room, room, room
		says(t, show(room), render.To(w, room, "", "x"), api.Say{To: "ann", Text: "x"}, api.Say{To: "gus", Text: "x"})
		says(t, show(room), render.To(w, room, "gus", "x"), api.Say{To: "ann", Text: "x"})
	}
}

// P17.1: the text as it is, whatever its bytes.
func TestToTexts(t *testing.T) {
	for _, text := range []string{"", " ", "x", "ann", "Exits: none", "a\nb\r\n", "\x00", "\xff\xfe", "é", "%d%s%!", "\xff\xff\xff\xff\xf0", strings.Repeat("long ", 100000)} {
		says(t, "To", render.To(town(), 10, "", text), api.Say{To: "ann", Text: text}, api.Say{To: "dan", Text: text})
		says(t, "To", render.To(town(), 40, "", text), api.Say{To: "bob", Text: text})
		says(t, "To", render.To(town(), 30, "", text))
	}
}

// P17.1: as many characters as a world has room for, in one room.
func TestToMost(t *testing.T) {
	w := entity.New(tables(t))
	small, _ := names(24)
	var all []api.Say
	for _, name := range small {
		w.Chars = append(w.Chars, api.Char{Name: name, Hash: hash, On: true, Room: 60, Hp: 20})
		all = append(all, api.Say{To: name, Text: "x"})
	}
	says(t, "all", render.To(w, 60, "", "x"), all...)
	for k, name := range small {
		want := append(append([]api.Say{}, all[:k]...), all[k+1:]...)
		says(t, name, render.To(w, 60, name, "x"), want...)
	}
}

// P17.1: by names, though the list of a world that May not be has another order;
// of several of one name all are told, or none.
func TestToByNames(t *testing.T) {
	w := &api.World{}
	for _, name := range []string{"dan", "bob", "zoe", "", "ann", "bob", "Cid", "\xff", "bo"} {
		w.Chars = append(w.Chars, api.Char{Name: name, On: true, Room: 5})
	}
	var all, butBob []api.Say
	for _, name := range []string{"", "Cid", "ann", "bo", "bob", "bob", "dan", "zoe", "\xff"} {
		all = append(all, api.Say{To: name, Text: "x"})
		if name != "bob" {
			butBob = append(butBob, api.Say{To: name, Text: "x"})
		}
	}
	says(t, "all", render.To(w, 5, "nobody", "x"), all...)
	says(t, "but bob", render.To(w, 5, "bob", "x"), butBob...)
	says(t, "but the one without a name", render.To(w, 5, "", "x"), all[1:]...)
}
