package settle_test

import (
	"slices"
	"testing"

	"tally/api"
)

// P13.6, R2: what is handed in is not kept: who changes it later changes no Settle.
func TestHandedInIsNotKept(t *testing.T) {
	c := three()
	c.Accounts = []api.Account{{Name: "x", Balance: 1}}
	l := copies(t, c, 1)
	s := open(t, c, 2, 0)
	c.Accounts[0] = api.Account{}
	q := []api.Entry{entry(1, 1), entry(1, 2)}
	s.Look(book(q...))
	s.Look(api.Book{Queue: q})
	q[0], q[1] = entry(2, 9), entry(2, 8)
	wants(t, s, 1, 1, true)
	wants(t, s, 2, 9, false)
	sends(t, "as it was shown", s, toll(2, l[0], 0, entry(1, 1)))
	q[0], q[1] = entry(1, 7), entry(1, 0)
	sends(t, "as it was shown", s, toll(2, l[1], 0, entry(1, 1)))
	wants(t, s, 1, 0, false)

	// Nor does it count as seen last what has been written into the old list.
	q[0] = entry(1, 1)
	s.Look(api.Book{Queue: q[:1]})
	sends(t, "the pace goes on", s)
}

// P13.6, R2: what is handed in is not changed, nor is the room behind its end.
func TestHandedInIsNotChanged(t *testing.T) {
	c := three()
	row := []api.Entry{entry(2, 9), entry(1, 1), entry(0, 4), entry(2, 1), entry(1, 9), entry(2, 8)}
	was := slices.Clone(row)
	accounts := []api.Account{{Name: "b", Balance: 1}, {Name: "a", Balance: 2}, {Name: "c"}}
	c.Accounts = accounts[:2]
	s := open(t, c, 2, 0)
	s.Look(api.Book{Queue: row[1:4]})
	for range 9 {
		clear(s.Tick())
		s.Wants(1, 1)
	}
	s.Look(api.Book{Queue: row[1:3]})
	s.Tick()
	s.Stop()
	if !slices.Equal(row, was) {
		t.Errorf("queue: %v", row)
	}
	if !slices.Equal(accounts, []api.Account{{Name: "b", Balance: 1}, {Name: "a", Balance: 2}, {Name: "c"}}) {
		t.Errorf("accounts: %v", accounts)
	}
}

// P13.6, R2: what is answered is new memory, the room behind its end too.
func TestToldIsNew(t *testing.T) {
	c := three()
	c.Cap = 1
	one, two := copies(t, c, 1), copies(t, c, 2)
	a, b := entry(1, 1), entry(2, 1)
	s := open(t, c, 2, 0)
	s.Look(book(a, b))
	first := s.Tick()
	second := s.Tick()
	clear(first[:cap(first)])
	if spellAll(second) != spellAll([]api.Msg{toll(2, one[1], 0, a), toll(2, two[1], 0, b)}) {
		t.Errorf("told ahead: %q", spellAll(second))
	}
	clear(second[:cap(second)])
	sends(t, "told anew", s, toll(2, one[2], 0, a), toll(2, two[2], 0, b))
	l := s.Tick()
	m := append(l[:1], api.Msg{})
	m[0].To, m[1].Peer = 9, 9
	sends(t, "told anew", s, toll(2, one[1], 0, a), toll(2, two[1], 0, b))
}

// P13.6: two Settles have nothing in common, of one configuration, node, shard and book.
func TestTwo(t *testing.T) {
	c := three()
	l := copies(t, c, 1)
	one, other := open(t, c, 2, 0), open(t, c, 2, 0)
	e, b := entry(1, 1), book(entry(1, 1))
	one.Look(b)
	sends(t, "the other has no book", other)
	wants(t, other, 1, 1, false)
	sends(t, "one", one, toll(2, l[0], 0, e))
	other.Look(b)
	sends(t, "the other begins", other, toll(2, l[0], 0, e))
	sends(t, "one", one, toll(2, l[1], 0, e))
	one.Stop()
	sends(t, "the other goes on", other, toll(2, l[1], 0, e))
	wants(t, other, 1, 1, true)
	one.Look(book(entry(1, 2)))
	sends(t, "the other waits", other)
	sends(t, "one anew", one, toll(2, l[2], 0, entry(1, 2)))
	sends(t, "the other", other, toll(2, l[2], 0, e))
	sends(t, "one", one, toll(2, l[0], 0, entry(1, 2)))
}
