package entity_test

import (
	"math"
	"slices"
	"testing"

	"lychgate/api"
	"lychgate/entity"
)

// makes makes a thing and checks that the world has just that one more.
func makes(t testing.TB, w *api.World, proto int, like, want api.Thing) {
	t.Helper()
	after := entity.Copy(w)
	want.Id = w.Next
	after.Things = append(after.Things, want)
	after.Next++
	if !entity.Make(w, proto, like) {
		t.Errorf("Make(%d, %+v): false", proto, like)
	}
	same(t, "the world behind Make", w, after)
}

// makesNot checks that nothing is made, and that the world is as it was.
func makesNot(t testing.TB, w *api.World, proto int, like api.Thing) {
	t.Helper()
	before := show(w)
	if entity.Make(w, proto, like) {
		t.Errorf("Make(%d, %+v): true", proto, like)
	}
	same(t, "the world behind Make", w, before)
}

// P16.3: a thing in each place; the world May still be.
func TestMake(t *testing.T) {
	w, db := town(), tables(t)
	for _, like := range []api.Thing{
		{Place: api.InRoom, Room: 10}, {Place: api.InRoom, Room: 60}, {Place: api.Carried, Who: "ann"}, {Place: api.Carried, Who: "cid"}, {Place: api.Worn, Who: "dan"},
	} {
		want := like
		want.Proto = 12
		makes(t, w, 12, like, want)
		may(t, show(like), w, db)
	}
	makes(t, w, 14, api.Thing{Place: api.InLot}, api.Thing{Proto: 14, Place: api.InLot})
	w.Lots = append(w.Lots, api.Lot{Id: w.Next, Thing: w.Next - 1, Seller: "ann", Min: 1, Ends: 200})
	w.Next++
	may(t, "a lot more", w, db)
}

// P16.3: of the thing handed in Place, Room and Who count, and nothing else.
func TestMakeLike(t *testing.T) {
	w := town()
	makes(t, w, 12, api.Thing{Id: 5, Proto: 11, Place: 1, Room: 10, Who: "x"}, api.Thing{Proto: 12, Place: 1, Room: 10, Who: "x"})
	makes(t, w, 11, api.Thing{Id: -1, Proto: -1, Place: 2, Who: "ann"}, api.Thing{Proto: 11, Place: 2, Who: "ann"})
	makes(t, w, 11, api.Thing{Id: math.MaxInt64, Proto: 12}, api.Thing{Proto: 11})
	makes(t, w, 13, w.Things[4], api.Thing{Proto: 13, Place: api.Worn, Who: "ann"})
}

// P16.3: rooms, places, kinds and characters that there are none of: Make doesn't
// look at them.
func TestMakeAnything(t *testing.T) {
	w := town()
	for _, n := range []int{0, -1, 99, math.MinInt, math.MaxInt} {
		makes(t, w, n, api.Thing{Place: api.InRoom, Room: 10}, api.Thing{Proto: n, Place: api.InRoom, Room: 10})
		makes(t, w, 11, api.Thing{Place: n, Room: n, Who: "\xff"}, api.Thing{Proto: 11, Place: n, Room: n, Who: "\xff"})
		makes(t, w, n, api.Thing{}, api.Thing{Proto: n})
	}
	makes(t, &api.World{}, 0, api.Thing{}, api.Thing{})
	makes(t, &api.World{Next: 1}, 3, api.Thing{Room: 4}, api.Thing{Proto: 3, Room: 4})
}

// P16.3: up to 200 things, whatever places and kinds they have.
func TestMakeMost(t *testing.T) {
	for _, n := range []int{0, 1, 198, 199} {
		w := town()
		w.Things = nil
		put(w, n, api.Thing{Proto: 11, Place: api.InRoom, Room: 10})
		for len(w.Things) < 200 {
			makes(t, w, 11, api.Thing{Place: api.Carried, Who: "ann"}, api.Thing{Proto: 11, Place: api.Carried, Who: "ann"})
		}
		for range 3 {
			makesNot(t, w, 12, api.Thing{Place: api.InRoom, Room: 10})
		}
		if !entity.Drop(w, w.Things[100].Id) {
			t.Error("Drop")
		}
		makes(t, w, 11, api.Thing{}, api.Thing{Proto: 11})
		makesNot(t, w, 11, api.Thing{})
	}
	for _, n := range []int{200, 201, 1000} {
		w := &api.World{Next: 1}
		put(w, n, api.Thing{Proto: 11})
		makesNot(t, w, 11, api.Thing{Place: api.InRoom, Room: 10})
	}
}

// P16.3, P0.6: numbers come from Next, whatever it is; beyond the greatest there
// is none.
func TestMakeNext(t *testing.T) {
	for _, next := range []int64{1, 64, 0, -1, -5, math.MinInt64, 1<<50 - 1, 1 << 50, 1<<50 + 1, math.MaxInt64 - 2, math.MaxInt64 - 1} {
		w := town()
		w.Next = next
		makes(t, w, 11, api.Thing{Place: api.InRoom, Room: 10}, api.Thing{Proto: 11, Place: api.InRoom, Room: 10})
		if w.Next != next+1 {
			t.Errorf("Next %d behind %d", w.Next, next)
		}
	}
	w := town()
	w.Next = math.MaxInt64
	makesNot(t, w, 11, api.Thing{Place: api.InRoom, Room: 10})
}

// P16.3: no number comes twice, though things go.
func TestMakeNumbers(t *testing.T) {
	w := town()
	var ids []int64
	for _, x := range w.Things {
		ids = append(ids, x.Id)
	}
	for k := range 600 {
		if len(w.Things) > 150 || k%3 == 2 {
			if !entity.Drop(w, w.Things[(k*7)%len(w.Things)].Id) {
				t.Fatal("Drop")
			}
		}
		if !entity.Make(w, 11, api.Thing{Place: api.InRoom, Room: 10}) {
			t.Fatal("Make")
		}
		ids = append(ids, w.Things[len(w.Things)-1].Id)
		if !slices.IsSortedFunc(w.Things, func(a, b api.Thing) int { return int(a.Id - b.Id) }) {
			t.Fatal("the list doesn't rise")
		}
	}
	slices.Sort(ids)
	if len(slices.Compact(slices.Clone(ids))) != len(ids) {
		t.Errorf("a number came twice: %v", ids)
	}
}

// drops drops a thing, and checks that just that one is gone.
func drops(t testing.TB, w *api.World, i int) {
	t.Helper()
	after := entity.Copy(w)
	after.Things = slices.Delete(after.Things, i, i+1)
	id := w.Things[i].Id
	if !entity.Drop(w, id) {
		t.Errorf("Drop(%d): false", id)
	}
	same(t, "the world behind Drop", w, after)
	if slices.ContainsFunc(w.Things, func(t api.Thing) bool { return t.Id == id }) {
		t.Errorf("Drop(%d): it is there", id)
	}
	dropsNot(t, w, id)
}

// dropsNot checks that nothing goes, and that the world is as it was.
func dropsNot(t testing.TB, w *api.World, id int64) {
	t.Helper()
	before := show(w)
	if entity.Drop(w, id) {
		t.Errorf("Drop(%d): true", id)
	}
	same(t, "the world behind Drop", w, before)
}

// P16.3: each thing of each place goes, the first, the last and the only one.
func TestDrop(t *testing.T) {
	db := tables(t)
	for i, x := range town().Things {
		w := town()
		drops(t, w, i)
		if x.Place != api.InLot {
			may(t, show(x), w, db)
		}
	}
	w := town()
	for len(w.Things) > 0 {
		drops(t, w, len(w.Things)/2)
	}
	makes(t, w, 11, api.Thing{Place: api.InRoom, Room: 10}, api.Thing{Proto: 11, Place: api.InRoom, Room: 10})
	drops(t, w, 0)
}

// P16.3: numbers that no thing has.
func TestDropNone(t *testing.T) {
	for _, id := range []int64{0, -1, -5, 1, 2, 9, 6, 25, 50, 63, 64, 65, 1000, math.MinInt64, math.MaxInt64} {
		dropsNot(t, town(), id)
		dropsNot(t, &api.World{Next: 5}, id)
		dropsNot(t, &api.World{Things: []api.Thing{}}, id)
	}
	// Places in the list are no numbers of things.
	w := town()
	w.Things = w.Things[:3]
	for i := range int64(3) {
		dropsNot(t, w, i)
	}
}

// P16.3: numbers that no thing of a right world has, but this one's things.
func TestDropOdd(t *testing.T) {
	for _, id := range []int64{0, -1, math.MinInt64, math.MaxInt64} {
		w := &api.World{Things: []api.Thing{{Id: 7}, {Id: id}, {Id: 3}}}
		drops(t, w, 1)
	}
	// Of several the first goes.
	w := &api.World{Things: []api.Thing{{Id: 5}, {Id: 7, Proto: 1}, {Id: 7, Proto: 2}}}
	if !entity.Drop(w, 7) || len(w.Things) != 2 || w.Things[1].Proto != 2 {
		t.Errorf("%s", show(w))
	}
}

// P16.3, P0.1: no world.
func TestChangeNoWorld(t *testing.T) {
	if entity.Make(nil, 1, api.Thing{Place: api.InRoom, Room: 10}) || entity.Make(nil, 0, api.Thing{}) {
		t.Error("Make(nil): true")
	}
	for _, id := range []int64{0, 1, -1, math.MinInt64, math.MaxInt64} {
		if entity.Drop(nil, id) {
			t.Error("Drop(nil): true")
		}
	}
}

// P0.3: spare room behind the list of things may be another list's: neither Make
// nor Drop writes there, nor into a list that another world holds, too.
func TestChangeSpareRoom(t *testing.T) {
	all := roomyTown().Things
	spare := show(spareOf(all))
	w, other := town(), town()
	w.Things, other.Things = all, all
	if !entity.Make(w, 11, api.Thing{Place: api.InRoom, Room: 10}) {
		t.Fatal("Make")
	}
	same(t, "the other behind Make", other, town())
	same(t, "the spare room behind Make", show(spareOf(all)), spare)
	for _, id := range []int64{5, 13, 40, 64} {
		if !entity.Drop(w, id) {
			t.Fatal("Drop")
		}
		same(t, "the other behind Drop", other, town())
		same(t, "the spare room behind Drop", show(spareOf(all)), spare)
	}
	w, other = town(), town()
	w.Things, other.Things = all, all
	drops(t, w, 3)
	drops(t, w, 0)
	same(t, "the other behind Drop alone", other, town())
	same(t, "the spare room behind Drop alone", show(spareOf(all)), spare)
	// What is made for one world isn't seen in another that began with the same list.
	one, two := town(), town()
	one.Things, two.Things = all[:3], all[:3]
	entity.Make(one, 11, api.Thing{Place: api.InRoom, Room: 10})
	entity.Make(two, 12, api.Thing{Place: api.InRoom, Room: 40})
	if one.Things[3].Proto != 11 || two.Things[3].Proto != 12 || all[3].Id != 12 {
		t.Errorf("%v, %v, %v", one.Things[3], two.Things[3], all[3])
	}
	two = &api.World{Next: 90, Things: one.Things}
	entity.Make(one, 11, api.Thing{Room: 5})
	entity.Make(two, 12, api.Thing{Room: 6})
	if one.Things[4].Room != 5 || two.Things[4].Room != 6 {
		t.Errorf("%v, %v", one.Things[4], two.Things[4])
	}
}
