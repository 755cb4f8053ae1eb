package disk

import (
	"maps"
	"slices"
)

// longest is how many bytes a file name has at most.
const longest = 64

func isFileName(s string) bool {
	if len(s) < 1 || len(s) > longest {
		return false
	}
	for i := range len(s) {
		if !isFileByte(s[i]) {
			return false
		}
	}
	return true
}

func isFileByte(c byte) bool {
	switch {
	case c >= 'a' && c <= 'z', c >= '0' && c <= '9':
		return true
	}
	return c == '.' || c == '-' || c == '_'
}

// files says which name leads to which file.
type files map[string]*file

func sorted(l files) []string {
	return slices.Sorted(maps.Keys(l))
}

// move is a name change: a file goes from one name to another. One that is made comes from no name, one that is removed goes to none.
type move struct {
	file     *file // nil: removed
	from, to string
}

func (m move) onto(l files) {
	delete(l, m.from)
	if m.to != "" {
		l[m.to] = m.file
	}
}

// names is which name leads to which file: what is safe, the changes that are not, and what is seen, which is both.
type names struct {
	safe, seen files
	moves      []move
}

func newNames() names {
	return names{safe: files{}, seen: files{}}
}

// lay lays a file under a name that is safe.
func (n *names) lay(name string, f *file) {
	n.safe[name] = f
	n.seen[name] = f
}

// change carries a name change out, but not safely.
func (n *names) change(m move) {
	n.moves = append(n.moves, m)
	m.onto(n.seen)
}

// after tells the names behind the first k changes.
func (n *names) after(k int) files {
	left := maps.Clone(n.safe)
	for _, m := range n.moves[:k] {
		m.onto(left)
	}
	return left
}

// makeSafe makes safe what is seen.
func (n *names) makeSafe() {
	for _, m := range n.moves {
		m.onto(n.safe)
	}
	// A file that no name leads to must not be held by a change that is done with.
	clear(n.moves)
	n.moves = n.moves[:0]
}
