package disk

// row is a row of bytes.
type row []byte

func copied(b []byte) row {
	r := make(row, len(b))
	copy(r, b)
	return r
}

func (r *row) extend(b []byte) {
	*r = append(*r, b...)
}

func (r *row) shorten(n int) {
	*r = (*r)[:n]
}

// change is what was done to a file: bytes that were appended, a unit each, or a cut, which is one unit.
type change struct {
	added row // none: a cut
	to    int // the length that a cut leaves
}

func (c change) isCut() bool {
	return len(c.added) == 0
}

func (c change) units() int {
	if c.isCut() {
		return 1
	}
	return len(c.added)
}

// onto carries out the first n units of a change.
func (c change) onto(r *row, n int) {
	switch {
	case n == 0:
	case c.isCut():
		r.shorten(c.to)
	default:
		r.extend(c.added[:n])
	}
}

// file is what a name leads to: bytes that are safe, and the changes behind these that are not.
type file struct {
	row
	changes []change
	size    int // how many bytes are seen
}

// newFile makes a file whose bytes are safe.
func newFile(b []byte) *file {
	return &file{row: copied(b), size: len(b)}
}

// units tells how many of its changes' units are not safe.
func (f *file) units() int {
	n := 0
	for _, c := range f.changes {
		n += c.units()
	}
	return n
}

// after tells the bytes behind the first n units.
func (f *file) after(n int) row {
	left := copied(f.row)
	for _, c := range f.changes {
		k := min(n, c.units())
		c.onto(&left, k)
		n -= k
	}
	return left
}

func (f *file) add(b []byte) {
	if len(b) == 0 {
		return
	}
	f.size += len(b)
	// Appended bytes behind one another are one change, so that many short ones take little room.
	if last := len(f.changes) - 1; last >= 0 && !f.changes[last].isCut() {
		f.changes[last].added.extend(b)
		return
	}
	f.changes = append(f.changes, change{added: copied(b)})
}

func (f *file) cut(n int) {
	if n == f.size {
		return
	}
	f.size = n
	f.changes = append(f.changes, change{to: n})
}

// makeSafe makes safe what is seen.
func (f *file) makeSafe() {
	for _, c := range f.changes {
		c.onto(&f.row, c.units())
	}
	clear(f.changes)
	f.changes = f.changes[:0]
}
