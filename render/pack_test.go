package render_test

import (
	"math"
	"testing"

	"lychgate/api"
	"lychgate/entity"
	"lychgate/render"
)

// P17.1: of one who carries and wears, who only carries, who only wears, and who
// does neither; On or not.
func TestPack(t *testing.T) {
	w, db := town(), tables(t)
	pack := func(name string, want ...string) {
		t.Helper()
		tells(t, "Pack", render.Pack(w, db, name), name, want...)
	}
	pack("ann", "You carry:", "gem", "club", "rag", "pike (worn)", "coat (worn)")
	pack("bob", "You carry:", "club (worn)")
	pack("cid", "You carry:", "club", "rag")
	for _, name := range []string{"dan", "eve", "fay", "gus"} {
		pack(name, "You carry nothing.")
	}
}

// P17.1: what is carried ahead of what is worn, each by its places in the list,
// one, several and several of one kind.
func TestPackOrder(t *testing.T) {
	db := tables(t)
	carried, worn := api.Thing{Place: api.Carried, Who: "eve"}, api.Thing{Place: api.Worn, Who: "eve"}
	pack := func(turn func(w *api.World), want ...string) {
		t.Helper()
		w := town()
		turn(w)
		tells(t, "Pack", render.Pack(w, db, "eve"), "eve", append([]string{"You carry:"}, want...)...)
	}
	pack(func(w *api.World) { put(w, carried, 14) }, "gem")
	pack(func(w *api.World) { put(w, carried, 15, 11, 13, 11) }, "pike", "rag", "coat", "rag")
	pack(func(w *api.World) { put(w, worn, 15, 13) }, "pike (worn)", "coat (worn)")
	pack(func(w *api.World) { put(w, worn, 13, 12) }, "coat (worn)", "club (worn)")
	pack(func(w *api.World) { put(w, worn, 13); put(w, carried, 12) }, "club", "coat (worn)")
	pack(func(w *api.World) {
		put(w, carried, 14)
		put(w, worn, 13)
		put(w, carried, 11)
		put(w, worn, 15)
		put(w, carried, 11, 15)
	}, "gem", "rag", "rag", "pike", "coat (worn)", "pike (worn)")
}

// P17.1: as much as one may carry and wear.
func TestPackFull(t *testing.T) {
	w, db := town(), tables(t)
	put(w, api.Thing{Place: api.Worn, Who: "eve"}, 12, 13)
	put(w, api.Thing{Place: api.Carried, Who: "eve"}, 11, 12, 13, 14, 15, 14, 13, 12)
	if !entity.May(w, db) {
		t.Error("not May")
	}
	tells(t, "Pack", render.Pack(w, db, "eve"), "eve", "You carry:", "rag", "club", "coat", "gem", "pike", "gem", "coat", "club", "club (worn)", "coat (worn)")
}

// P17.1: what lies where one is, what is in a lot, and what others have, is not
// carried, whoever stands for it.
func TestPackOfOthers(t *testing.T) {
	w, db := town(), tables(t)
	for _, place := range []int{api.InRoom, api.InLot, 0, 5, -1, math.MinInt, math.MaxInt} {
		put(w, api.Thing{Place: place, Room: 80, Who: "eve"}, 12)
	}
	for _, who := range []string{"", "Eve", "ev", "eves", "dan"} {
		put(w, api.Thing{Place: api.Carried, Room: 80, Who: who}, 12)
		put(w, api.Thing{Place: api.Worn, Room: 80, Who: who}, 12)
	}
	tells(t, "Pack", render.Pack(w, db, "eve"), "eve", "You carry nothing.")
}

// P17.1, P0.1: kinds that there are none of have no name; no tables, empty ones.
func TestPackKindsThatAreNone(t *testing.T) {
	for _, id := range []int{0, 10, 16, 21, 99, -1, -11, math.MinInt, math.MaxInt} {
		w := town()
		put(w, api.Thing{Place: api.Worn, Who: "eve"}, id, 13)
		put(w, api.Thing{Place: api.Carried, Who: "eve"}, 11, id)
		tells(t, show(id), render.Pack(w, tables(t), "eve"), "eve", "You carry:", "rag", "", " (worn)", "coat (worn)")
	}
	for _, db := range []*api.Db{nil, {}, {Protos: []api.Proto{}}} {
		tells(t, "without tables", render.Pack(town(), db, "cid"), "cid", "You carry:", "", "")
		tells(t, "without tables", render.Pack(town(), db, "bob"), "bob", "You carry:", " (worn)")
		tells(t, "without tables", render.Pack(town(), db, "eve"), "eve", "You carry nothing.")
	}
	db := &api.Db{Protos: []api.Proto{{Id: 12, Name: "é \xff"}}}
	tells(t, "odd names", render.Pack(town(), db, "bob"), "bob", "You carry:", "é \xff (worn)")
}

// P17.1, P0.4: no things at all.
func TestPackWithoutThings(t *testing.T) {
	for _, l := range [][]api.Thing{nil, {}} {
		w := town()
		w.Things = l
		tells(t, "Pack", render.Pack(w, tables(t), "ann"), "ann", "You carry nothing.")
	}
}
