package store_test

import (
	"reflect"
	"slices"
	"testing"

	"lychgate/api"
)

// roomy makes a copy of a thing whose lists have spare room, full of rows that
// are not zero.
func roomy[T any](x *T) *T {
	c := plain(x)
	eachList(reflect.ValueOf(c).Elem(), func(v reflect.Value) {
		l := reflect.MakeSlice(v.Type(), v.Len()+3, v.Len()+3)
		reflect.Copy(l, v)
		for i := v.Len(); i < l.Len(); i++ {
			scribble(l.Index(i))
		}
		v.Set(l.Slice(0, v.Len()))
	})
	return c
}

// drawnOut answers a copy of a thing with its lists drawn out over their spare
// room.
func drawnOut[T any](x *T) *T {
	if x == nil {
		return nil
	}
	c := *x
	eachList(reflect.ValueOf(&c).Elem(), func(v reflect.Value) {
		l := reflect.MakeSlice(v.Type(), v.Cap(), v.Cap())
		reflect.Copy(l, v.Slice(0, v.Cap()))
		v.Set(l)
	})
	return &c
}

// overwrite writes over all lists of a thing, their spare room too.
func overwrite[T any](x *T) {
	eachList(reflect.ValueOf(x).Elem(), func(v reflect.Value) {
		all := v.Slice(0, v.Cap())
		for i := range all.Len() {
			scribble(all.Index(i))
		}
	})
}

// eachList calls f with each list below v, and then with those in its rows.
func eachList(v reflect.Value, f func(v reflect.Value)) {
	switch v.Kind() {
	case reflect.Struct:
		for i := range v.NumField() {
			eachList(v.Field(i), f)
		}
	case reflect.Slice:
		f(v)
		for i := range v.Len() {
			eachList(v.Index(i), f)
		}
	}
}

// scribble writes over all that is not a list.
func scribble(v reflect.Value) {
	switch v.Kind() {
	case reflect.Struct:
		for i := range v.NumField() {
			scribble(v.Field(i))
		}
	case reflect.String:
		v.SetString("scribbled")
	case reflect.Bool:
		v.SetBool(!v.Bool())
	case reflect.Int, reflect.Int64:
		v.SetInt(0x5a5a)
	}
}

// P0.3: World and Events answer copies: whoever writes into them, the spare room
// too, changes nothing that the store keeps and nothing that it answered else.
func TestAnswersAreCopies(t *testing.T) {
	p := newTrial(t, 300)
	for k, w := range []*api.World{town(), wide(3), {}, nil, longWorld(1, 5000)} {
		p.snapshot(t, w)
		p.append(t, events()...)
		for _, s := range []*trial{p, {d: p.d, f: p.f, s: opened(t, p.f), all: p.all, snaps: p.snaps}} {
			world, list := s.s.World(), s.s.Events()
			otherWorld, otherList := s.s.World(), s.s.Events()
			if world != nil {
				if world == otherWorld {
					t.Error("two answers are one world")
				}
				overwrite(world)
				*world = api.World{Now: 99}
			}
			overwrite(&list)
			clear(list[:cap(list)])
			s.holds(t)
			if !reflect.DeepEqual(plain(otherWorld), plain(w)) || !reflect.DeepEqual(plain(&otherList), plain(new(events()))) {
				t.Errorf("answers share memory (world %d)", k)
			}
		}
		p.some(t, 1)
		p.snapshot(t, w)
		p.holds(t)
	}
}

// P0.3: no two lists of one answer share memory, so that one who appends to one
// writes into no other.
func TestListsOfAnAnswer(t *testing.T) {
	p := newTrial(t, 300)
	p.snapshot(t, wide(5))
	p.append(t, events()...)
	p.append(t, events()...)
	world, list := p.s.World(), p.s.Events()
	room := func(v reflect.Value) {
		for i := v.Len(); i < v.Cap(); i++ {
			scribble(v.Slice(0, v.Cap()).Index(i))
		}
	}
	eachList(reflect.ValueOf(world).Elem(), room)
	eachList(reflect.ValueOf(&list).Elem(), room)
	if !reflect.DeepEqual(plain(world), plain(wide(5))) || !reflect.DeepEqual(plain(&list), plain(new(slices.Concat(events(), events())))) {
		t.Error("lists of an answer share memory")
	}
}

// P0.3: an answer stays as it is, whatever the store is told later.
func TestAnswersStay(t *testing.T) {
	p := newTrial(t, 300)
	p.snapshot(t, town())
	p.append(t, events()...)
	world, list := p.s.World(), p.s.Events()
	for k := range 5 {
		p.some(t, 3)
		p.snapshot(t, longWorld(k, 700))
	}
	if !reflect.DeepEqual(plain(world), plain(town())) || !reflect.DeepEqual(plain(&list), plain(new(events()))) {
		t.Error("an answer changed")
	}
}

// P0.3: what is handed in is neither changed nor kept, its spare room neither, be
// it taken or refused.
func TestNothingIsKept(t *testing.T) {
	p := newTrial(t, 300)
	for _, e := range append(events(), longEvent(1, mostOfEvent+1)) {
		x := roomy(&e)
		was := drawnOut(x)
		if p.s.Append(*x) == nil {
			p.all = append(p.all, e)
		}
		if is := drawnOut(x); !reflect.DeepEqual(is, was) {
			t.Errorf("Append changed %.200v to %.200v", was, is)
		}
		overwrite(x)
		p.holds(t)
	}
	for _, w := range append(worlds(), longWorld(1, 90000), longWorld(1, 103000)) {
		if w == nil {
			continue
		}
		x := roomy(w)
		was := drawnOut(x)
		if p.s.Snapshot(x) == nil {
			p.snaps = append(p.snaps, snap{w, len(p.all)})
		}
		if is := drawnOut(x); !reflect.DeepEqual(is, was) {
			t.Errorf("Snapshot changed %.200v to %.200v", was, is)
		}
		overwrite(x)
		*x = api.World{Now: 99}
		p.holds(t)
		p.some(t, 1)
	}
	p.sync(t)
	p.crash(t, nil).holds(t)
}
