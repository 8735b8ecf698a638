package worlddb_test

import (
	"errors"
	"math"
	"strings"
	"testing"

	"lychgate/api"
	"lychgate/lines"
	"lychgate/worlddb"
)

// P13.1: a wrong line's error tells its line, and that it is none.
func TestLineError(t *testing.T) {
	for _, c := range []struct {
		text string
		line int
	}{{"foo", 1}, {"#\n\nroom", 3}, {small + "shop 0 0\n", 23}} {
		_, err := worlddb.Parse(c.text)
		e, ok := err.(*worlddb.LineError)
		if !ok || e.Line != c.line || e.Err != api.ErrLine || e.Unwrap() != api.ErrLine || errors.Unwrap(err) != api.ErrLine {
			t.Errorf("Parse(%q): %#v", c.text, err)
		}
		isOnly(t, err, api.ErrLine)
		if s := err.Error(); s != "line "+lines.Print(int64(c.line))+": a line that is none" {
			t.Errorf("Parse(%q): %q", c.text, s)
		}
	}
}

// P13.1: Check's errors are no line's, from Parse as well.
func TestNoLineError(t *testing.T) {
	room := "room 1 a plain 0 0 0 0 0 0 0\n"
	for text, want := range map[string]api.Err{"": api.ErrLine, "#": api.ErrLine, room + room: api.ErrLine, room + "shop 1 0": api.ErrNotFound, room + "mob 1 a 3 1 0 0 0": api.ErrNotFound} {
		refuses(t, text, want)
	}
	for _, err := range []error{worlddb.Check(nil), worlddb.Check(&api.Db{})} {
		if e := (*worlddb.LineError)(nil); errors.As(err, &e) {
			t.Errorf("%v tells a line", err)
		}
	}
}

// P0.1: line errors that were made elsewhere.
func TestOtherLineErrors(t *testing.T) {
	var none *worlddb.LineError
	if none.Unwrap() != nil || none.Error() == "" {
		t.Errorf("of nil: %v, %q", none.Unwrap(), none.Error())
	}
	if e := new(worlddb.LineError); e.Unwrap() != nil || e.Error() == "" {
		t.Errorf("of none: %v, %q", e.Unwrap(), e.Error())
	}
	other := errors.New("other")
	e := &worlddb.LineError{Line: 4, Err: other}
	if e.Unwrap() != other || !errors.Is(e, other) || errors.Is(e, api.ErrLine) || !strings.Contains(e.Error(), "4") {
		t.Errorf("of another: %v", e)
	}
	e.Err = e
	if e.Unwrap() != e || !strings.Contains(e.Error(), "4") {
		t.Errorf("of itself: %v", e)
	}
	for k := api.Err(-1); k < 20; k++ {
		for _, line := range []int{0, -1, 7, math.MaxInt64, math.MinInt64} {
			e := &worlddb.LineError{Line: line, Err: k}
			if e.Unwrap() != k || !errors.Is(e, k) || !strings.Contains(e.Error(), lines.Print(int64(line))) {
				t.Errorf("of %v: %v", k, e)
			}
			if api.ErrRange <= k && k <= api.ErrLine && !strings.HasSuffix(e.Error(), ": "+k.Error()) {
				t.Errorf("of %v: %v", k, e)
			}
		}
	}
}
