package dirfs_test

import (
	"math/rand/v2"
	"testing"

	"lychgate/api"
	"lychgate/dirfs"
	"lychgate/inode"
)

// seats are the slots for which the store of play has blocks.
const seats = 64

// refusal tells what is to be told of a name that should be there.
func (m model) refusal(name string) error {
	switch {
	case name == "" || name == ".." || name == "A":
		return api.ErrName
	case m.at(name) < 0:
		return api.ErrNotFound
	}
	return nil
}

// hindrance tells what is to be told of an entry that should come.
func (m model) hindrance(e dirfs.Entry) error {
	switch err := m.refusal(e.Name); {
	case err == api.ErrName:
		return err
	case e.Node < 1 || e.Node > 31:
		return api.ErrRange
	case err == nil:
		return api.ErrExists
	case m.at("") < 0 && len(m) == seats:
		return api.ErrFull
	}
	return nil
}

// play lets a directory and its model do what the script says.
func play(t *testing.T, script []byte) {
	pool := append(many(80), named("", "..", "A")...)
	f, m := inode.New(newRack(seats/16)), model{}
	for ; len(script) >= 2 && !t.Failed(); script = script[2:] {
		e := dirfs.Entry{Name: pool[int(script[1])%len(pool)].Name, Node: int(script[0]/4) - 8}
		if script[0]%4 == 0 {
			if err := m.refusal(e.Name); err != nil {
				refuses(t, f, removing(e.Name), err)
				refuses(t, f, finding(t, e.Name), err)
			} else {
				remove(t, f, e.Name)
				m[m.at(e.Name)] = free
			}
		} else if err := m.hindrance(e); err != nil {
			refuses(t, f, adding(e.Name, e.Node), err)
		} else {
			add(t, f, e)
			m.add(e)
		}
		holds(t, f, m)
	}
}

func TestAgainstModel(t *testing.T) {
	for seed := range uint64(30) {
		script, r := make([]byte, 800), rand.New(rand.NewPCG(6, seed))
		for i := range script {
			script[i] = byte(r.Uint32())
		}
		play(t, script)
		if t.Failed() {
			t.Fatalf("seed %d", seed)
		}
	}
}

func FuzzAgainstModel(f *testing.F) {
	f.Add([]byte{41, 1, 45, 2, 40, 1, 49, 3, 41, 80, 41, 82})
	f.Fuzz(play)
}
