package codec_test

import (
	"testing"

	"lychgate/api"
	"lychgate/codec"
)

func TestEvents(t *testing.T) {
	for _, e := range events() {
		eventGoesAndComes(t, e)
	}
}

// TestEventsAreToldApart takes events of all kinds, each against each.
func TestEventsAreToldApart(t *testing.T) {
	all := events()
	for i, d := range all {
		for _, e := range all[:i] {
			eventsDiffer(t, d, e, codec.Event(d), codec.Event(e))
		}
	}
}

// TestEachFieldOfAnEvent changes the kind, each text, each die and the list of
// them alone.
func TestEachFieldOfAnEvent(t *testing.T) {
	for _, e := range events() {
		if len(e.Dice) > 200 {
			continue
		}
		was := codec.Event(e)
		seen := map[string]*api.Event{string(was): &e}
		var kinds, names, words, dice int
		for _, c := range changes(&e) {
			b := eventGoesAndComes(t, *c)
			eventsDiffer(t, *c, e, b, was)
			if other, ok := seen[string(b)]; ok && !same(other, c) {
				t.Errorf("%.200v and %.200v have the same bytes", *other, *c)
			}
			seen[string(b)] = c
			switch {
			case c.Kind != e.Kind:
				kinds++
			case c.Name != e.Name:
				names++
			case c.Text != e.Text:
				words++
			default:
				dice++
			}
		}
		if kinds == 0 || names == 0 || words == 0 || dice == 0 {
			t.Errorf("of %.200v a field was not changed: %d, %d, %d, %d", e, kinds, names, words, dice)
		}
	}
}

// TestZeroEvent: an event of nothing has bytes too, or no bytes would be some.
func TestZeroEvent(t *testing.T) {
	if b := eventGoesAndComes(t, api.Event{}); len(b) == 0 {
		t.Error("Event of a zero event is empty")
	}
}

func TestEmptyDice(t *testing.T) {
	for _, e := range events()[1:] {
		e.Dice = nil
		for _, dice := range [][]int{{}, make([]int, 0, 5)} {
			c := e
			c.Dice = dice
			if b := eventGoesAndComes(t, c); string(b) != string(codec.Event(e)) || !codec.EqEvent(c, e) || !codec.EqEvent(e, c) {
				t.Errorf("%.200v with an empty list is another than with none: %q", e, b)
			}
		}
	}
}

// TestEventsHoldAll puts each number and text into each field.
func TestEventsHoldAll(t *testing.T) {
	for _, n := range numbers() {
		eventGoesAndComes(t, api.Event{Kind: int(n)})
		eventGoesAndComes(t, api.Event{Dice: []int{int(n)}})
		eventGoesAndComes(t, api.Event{Kind: int(n), Name: "a", Text: "b", Dice: []int{1, int(n), 0, int(n)}})
	}
	for _, name := range texts() {
		for _, text := range texts() {
			eventGoesAndComes(t, api.Event{Kind: api.ECmd, Name: name, Text: text, Dice: []int{1}})
		}
	}
}

func TestManyDice(t *testing.T) {
	for _, n := range []int{1, 2, 126, 127, 128, 129, 247, 248, 255, 256, 257, 65535, 65536, 70000} {
		e := api.Event{Kind: api.ETick, Dice: make([]int, n)}
		for i := range e.Dice {
			e.Dice[i] = i*i - i
		}
		b := eventGoesAndComes(t, e)
		fewer := e
		fewer.Dice = e.Dice[:n-1]
		eventsDiffer(t, e, fewer, b, codec.Event(fewer))
	}
}

// TestOrderOfDice: lists are told apart by their order as well.
func TestOrderOfDice(t *testing.T) {
	d, e := api.Event{Dice: []int{1, 2, 2}}, api.Event{Dice: []int{2, 1, 2}}
	eventsDiffer(t, d, e, eventGoesAndComes(t, d), eventGoesAndComes(t, e))
}

func TestEventsByDice(t *testing.T) {
	d := newDicey(2)
	var all []api.Event
	var text [][]byte
	for range 5000 {
		e := d.event(d.IntN(6))
		b := eventGoesAndComes(t, e)
		for i, c := range all {
			if is := same(&c, &e); is != codec.EqEvent(c, e) || is != (string(text[i]) == string(b)) {
				t.Errorf("%.200v and %.200v: same %v", c, e, is)
			}
		}
		if len(all) < 100 {
			all, text = append(all, e), append(text, b)
		}
	}
}
