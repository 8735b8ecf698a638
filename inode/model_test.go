package inode_test

import (
	"errors"
	"testing"

	"lychgate/api"
	"lychgate/inode"
)

// play lets a file and its model do what the script says.
func play(t *testing.T, script []byte) {
	s, m := newShelf(t, 150), &model{}
	f := inode.New(s)
	for len(script) >= 5 && !t.Failed() {
		at := int(script[1])*512 + int(script[2])*2
		n := int(script[3])*16 + int(script[4])%16
		if script[0]&8 > 0 {
			s.fail(1+int(script[4])%40, false, "")
		}
		switch script[0] & 7 {
		case 0, 1, 2, 3:
			plays(t, s, f, m, writing(at, n), n > 0 && at+n > most)
		case 4, 5:
			plays(t, s, f, m, cutting(at+int(script[4])%2), at+int(script[4])%2 > most)
		default:
			s.heal()
			f = load(t, s, f.Bytes())
		}
		holds(t, s, f, m)
		script = script[5:]
	}
}

// plays does one deed, after which the file is as before or as it should be.
func plays(t *testing.T, s *shelf, f *inode.File, m *model, d deed, big bool) {
	t.Helper()
	s.broke = ""
	err := d.do(f)
	s.heal()
	next := *m
	switch {
	case big:
		if !errors.Is(err, api.ErrBig) {
			t.Errorf("%s: %v", d.name, err)
		}
	case s.broke != "":
		tells(t, err, false)
	case errors.Is(err, api.ErrFull):
		next.b = append([]byte{}, m.b...)
		if d.sure(&next); next.blocks() <= s.room {
			t.Errorf("%s: %v of %d blocks", d.name, err, next.blocks())
		}
	case err != nil:
		t.Errorf("%s: %v", d.name, err)
	default:
		d.sure(m)
	}
}

func TestAgainstModel(t *testing.T) {
	x := uint32(1)
	for range 60 {
		script := make([]byte, 500)
		for i := range script {
			x = x*1664525 + 1013904223
			script[i] = byte(x >> 24)
		}
		for i := 1; i < len(script); i += 5 {
			script[i] %= 202
		}
		play(t, script)
		if t.Failed() {
			t.Fatalf("script %v", script)
		}
	}
}

func FuzzAgainstModel(f *testing.F) {
	f.Add([]byte{0, 0, 5, 1, 0, 1, 8, 0, 100, 3, 4, 0, 50, 0, 0, 6, 0, 0, 0, 0})
	f.Add([]byte{0, 136, 255, 40, 3, 8, 130, 1, 250, 9, 12, 8, 0, 0, 2})
	f.Fuzz(play)
}
