package inode

import "lychgate/api"

// change is what the block at a slot shall hold, and what it held: zeros where
// there was none.
type change struct {
	slot     int
	old, new block
}

// laid answers the changes that let b stand at at.
func (f *File) laid(at int, b []byte) ([]change, error) {
	var list []change
	for len(b) > 0 {
		k := at / api.Sector
		old, err := f.get(f.blocks[k])
		if err != nil {
			return nil, err
		}
		c := change{slot: k, old: old, new: old}
		n := copy(c.new[at%api.Sector:], b)
		list = append(list, c)
		at, b = at+n, b[n:]
	}
	return list, nil
}

// cleared answers the changes by which zeros stand behind the first n bytes.
// Those of blocks that the cut frees tell what goes with them.
func (f *File) cleared(n int) ([]change, error) {
	var list []change
	for k := n / api.Sector; k < parts(f.size); k++ {
		old, err := f.get(f.blocks[k])
		if err != nil {
			return nil, err
		}
		c := change{slot: k, old: old, new: old}
		clear(c.new[max(0, n-k*api.Sector):])
		list = append(list, c)
	}
	return list, nil
}

// paged answers the changes of the indirect blocks.
func (f *File) paged(next *table) []change {
	var list []change
	for k := indexAt; k < slots; k++ {
		c := change{slot: k, old: f.blocks.page(k), new: next.page(k)}
		if c.new != c.old {
			list = append(list, c)
		}
	}
	return list
}

// grown answers the table with a block for each part from from on, ahead of to,
// and with the indirect blocks that these need.
func (f *File) grown(from, to int) (table, error) {
	next := f.blocks
	for k := range next {
		if next[k] != 0 || !next.needs(k, from, to) {
			continue
		}
		n, err := f.take(&next)
		if err != nil {
			f.giveBack(&next)
			return table{}, err
		}
		next[k] = n
	}
	return next, nil
}

// giveBack frees the blocks that only next has.
func (f *File) giveBack(next *table) {
	for k, n := range f.blocks {
		if n == 0 {
			_ = f.free(next[k])
		}
	}
}

// turn makes the file one of size bytes on the blocks of next, in which the
// changes are made. Where the store errs, what it did so far is taken back.
func (f *File) turn(next table, size int, changes []change) error {
	changes = append(changes, f.paged(&next)...)
	for i, c := range changes {
		if err := f.put(next[c.slot], c.new); err != nil {
			f.restore(&next, changes[:i+1])
			return err
		}
	}
	for k, n := range f.blocks {
		if next[k] != 0 {
			continue
		}
		// Behind all else that may fail, as it is the hardest to take back:
		// the store may give another number the next time.
		if err := f.free(n); err != nil {
			f.retake(&next, k)
			f.restore(&next, changes)
			return err
		}
	}
	f.blocks, f.size = next, size
	return nil
}

// restore lets the blocks hold what they did ahead of the changes, and gives
// back those that the file did not have.
func (f *File) restore(next *table, changes []change) {
	for _, c := range changes {
		// Blocks that were freed may be back under other numbers.
		if c.slot >= indexAt {
			c.old = f.blocks.page(c.slot)
		}
		_ = f.put(f.blocks[c.slot], c.old)
	}
	f.giveBack(next)
}

// retake takes blocks for the slots below end that next lacks, and which were
// freed. The last comes first: as soon as the store has none left, the file is
// without the others, but has all that name those it has.
func (f *File) retake(next *table, end int) {
	lost := f.blocks
	for k := range end {
		if next[k] == 0 {
			f.blocks[k] = 0
		}
	}
	for k := end - 1; k >= 0; k-- {
		if lost[k] == f.blocks[k] {
			continue
		}
		n, err := f.take(&f.blocks)
		if err != nil {
			return
		}
		f.blocks[k] = n
	}
}
