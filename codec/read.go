package codec

import "lychgate/api"

// reader takes bytes from the front. Once something in them is not what it
// should be, it is broken and has none left; what it answers then means
// nothing.
type reader struct {
	rest   []byte
	broken bool
}

func (r *reader) fail() {
	r.broken = true
	r.rest = nil
}

// ended tells whether all bytes were taken, and nothing was wrong with them.
func (r *reader) ended() bool {
	return !r.broken && len(r.rest) == 0
}

// take takes n bytes, or fails and answers none.
func (r *reader) take(n int) []byte {
	if n > len(r.rest) {
		r.fail()
		return nil
	}
	b := r.rest[:n]
	r.rest = r.rest[n:]
	return b
}

// nextByte takes one byte, or fails and answers 0.
func (r *reader) nextByte() byte {
	b := r.take(1)
	if len(b) == 0 {
		return 0
	}
	return b[0]
}

// high takes n bytes as a number, the highest first.
func (r *reader) high(n int) uint64 {
	u := uint64(0)
	for _, c := range r.take(n) {
		u = u<<8 | uint64(c)
	}
	return u
}

// mark takes a byte that must be c.
func (r *reader) mark(c byte) {
	if r.nextByte() != c {
		r.fail()
	}
}

func (r *reader) nextNumber() int64 {
	c := r.nextByte()
	u := uint64(c)
	if c >= small {
		k := int(c) - small + 1
		u = r.high(k)
		// Fewer bytes would have done.
		if u < small || size(u) != k {
			r.fail()
		}
	}
	return int64(u>>1) ^ -int64(u&1)
}

func (r *reader) nextInt() int {
	return int(r.nextNumber())
}

func (r *reader) nextLength() int {
	c := r.nextByte()
	if c < short {
		return int(c)
	}
	n := int(c-short)<<24 | int(r.high(3))
	// One byte would have done.
	if n < short {
		r.fail()
	}
	return n
}

func (r *reader) nextText() string {
	return string(r.take(r.nextLength()))
}

func (r *reader) nextBool() bool {
	c := r.nextByte()
	if c > 1 {
		r.fail()
	}
	return c == 1
}

// readList takes a list's length and its rows. It makes room only as rows come,
// since a length may be anything; each row takes a byte or more, so that a
// length without its rows soon fails.
func readList[T any](r *reader, read func(r *reader) T) []T {
	var l []T
	for n := r.nextLength(); n > 0 && !r.broken; n-- {
		l = append(l, read(r))
	}
	return l
}

func readInt(r *reader) int {
	return r.nextInt()
}

func readText(r *reader) string {
	return r.nextText()
}

func readChar(r *reader) api.Char {
	return api.Char{
		Name: r.nextText(),
		Hash: r.nextText(),
		On:   r.nextBool(),
		Room: r.nextInt(),
		Hp:   r.nextNumber(),
		Xp:   r.nextNumber(),
		Gold: r.nextNumber(),
		Bank: r.nextNumber(),
		Foe:  r.nextNumber(),
		Done: readList(r, readInt),
	}
}

func readThing(r *reader) api.Thing {
	return api.Thing{
		Id:    r.nextNumber(),
		Proto: r.nextInt(),
		Place: r.nextInt(),
		Room:  r.nextInt(),
		Who:   r.nextText(),
	}
}

func readMob(r *reader) api.Mob {
	return api.Mob{
		Id:    r.nextNumber(),
		Proto: r.nextInt(),
		Room:  r.nextInt(),
		Hp:    r.nextNumber(),
	}
}

func readHouse(r *reader) api.House {
	return api.House{
		Room:   r.nextInt(),
		Owner:  r.nextText(),
		Guests: readList(r, readText),
		Chest:  r.nextNumber(),
	}
}

func readLot(r *reader) api.Lot {
	return api.Lot{
		Id:     r.nextNumber(),
		Thing:  r.nextNumber(),
		Seller: r.nextText(),
		Min:    r.nextNumber(),
		Bid:    r.nextNumber(),
		Bidder: r.nextText(),
		Ends:   r.nextNumber(),
	}
}

func readTill(r *reader) api.Till {
	return api.Till{
		Room: r.nextInt(),
		Gold: r.nextNumber(),
	}
}
