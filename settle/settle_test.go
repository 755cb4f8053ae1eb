package settle_test

import (
	"math"
	"strings"
	"testing"

	"tally/api"
)

// P13.1 to P13.5: the chapter's example.
func TestExample(t *testing.T) {
	c := three()
	one, two := copies(t, c, 1), copies(t, c, 2)
	ann := api.Entry{Peer: 1, Number: 1, Name: "ann", Amount: 5}
	bob := api.Entry{Peer: 1, Number: 2, Name: "bob", Amount: 6}
	cat := api.Entry{Peer: 2, Number: 1, Name: "cat", Amount: 7}
	s := open(t, c, 2, 0)
	sends(t, "without a book", s)
	s.Look(book(ann, bob, cat))
	sends(t, "the first tick", s, toll(2, one[0], 0, ann), toll(2, two[0], 0, cat))
	sends(t, "the second", s, toll(2, one[1], 0, ann), toll(2, two[1], 0, cat))
	sends(t, "the third", s)
	sends(t, "the fourth", s, toll(2, one[2], 0, ann), toll(2, two[2], 0, cat))
	wants(t, s, 1, 1, true)
	wants(t, s, 1, 9, true)
	wants(t, s, 2, 0, false)
	wants(t, s, 0, 1, false)
	s.Look(book(bob, cat))
	sends(t, "ann is gone", s, toll(2, one[0], 0, bob))
	sends(t, "one more", s, toll(2, one[1], 0, bob))
	sends(t, "two more", s)
	sends(t, "three more", s, toll(2, one[2], 0, bob), toll(2, two[0], 0, cat))
	s.Stop()
	sends(t, "Stop", s)
	wants(t, s, 1, 9, false)
}

// P13.1, P13.4, P13.5: a new one has no book: nothing is sent and nothing wanted.
func TestNew(t *testing.T) {
	c := three()
	for shard := range c.Shards {
		s := open(t, c, 3, shard)
		for range 20 {
			sends(t, "new", s)
		}
		for peer := -1; peer <= c.Shards; peer++ {
			wants(t, s, peer, 0, false)
			wants(t, s, peer, math.MaxUint64, false)
		}
		peer := (shard + 1) % 3
		s.Look(book(entry(peer, 1)))
		sends(t, "the turn and the pace are at their begin", s, toll(3, copies(t, c, peer)[0], shard, entry(peer, 1)))
	}
}

// P13.1, P13.4: of every cluster, shard and peer: the settles go to the peer's copies in their order, round and round, from the node, about the shard.
func TestTurns(t *testing.T) {
	for nodes := 1; nodes <= api.MaxNodes; nodes++ {
		for n := 1; n <= min(nodes, api.MaxCopies); n += 2 {
			c := api.Config{Nodes: nodes, Shards: api.MaxShards, Copies: n, Clients: 1, Queue: 1, Cap: 1, Patience: 4, Flight: 1}
			for shard := range c.Shards {
				for peer := range c.Shards {
					if peer == shard {
						continue
					}
					s, l := open(t, c, shard%nodes, shard), copies(t, c, peer)
					s.Look(book(entry(peer, 7)))
					for i := range 2*n + 1 {
						sends(t, "a turn", s, toll(shard%nodes, l[i%n], shard, entry(peer, 7)))
					}
				}
			}
		}
	}
}

// P13.4: the paces go by the configuration's cap.
func TestCap(t *testing.T) {
	for most, want := range map[int]string{
		1: "TTTTTTTT", 2: "TTfTfTfT", 3: "TTfTffTffTffT", 4: "TTfTfffTfffTfffT", 5: "TTfTfffTffffTffffT",
		api.MaxCap: "TTfTfffTfffffffT" + strings.Repeat("f", 15) + "T" + strings.Repeat("f", 31) + "T" + strings.Repeat("f", 63) + "T" + strings.Repeat("f", 63) + "T",
	} {
		c := three()
		c.Cap = most
		s := open(t, c, 2, 0)
		s.Look(book(entry(1, 1)))
		goes(t, "cap", s, 1, want)
	}
}

// P13.4: peers come in rising order, whatever the order of the queue; the shard itself in the midst of them is none.
func TestOrder(t *testing.T) {
	c := three()
	c.Shards = 5
	s := open(t, c, 0, 2)
	s.Look(book(entry(4, 1), entry(1, 3), entry(3, 5), entry(1, 4), entry(0, 2), entry(4, 2), entry(2, 1)))
	sends(t, "rising", s,
		toll(0, copies(t, c, 0)[0], 2, entry(0, 2)), toll(0, copies(t, c, 1)[0], 2, entry(1, 3)),
		toll(0, copies(t, c, 3)[0], 2, entry(3, 5)), toll(0, copies(t, c, 4)[0], 2, entry(4, 1)))
}

// P13.2: the first entry is the one that stands first in the queue, whatever its number.
func TestFirst(t *testing.T) {
	c := three()
	l := copies(t, c, 1)
	s := open(t, c, 2, 0)
	s.Look(book(entry(1, 5), entry(1, 3), entry(1, 9)))
	sends(t, "not the least number", s, toll(2, l[0], 0, entry(1, 5)))
	s.Look(book(entry(2, 1), entry(1, 9), entry(1, 3)))
	sends(t, "behind another peer's", s, toll(2, l[1], 0, entry(1, 9)), toll(2, copies(t, c, 2)[0], 0, entry(2, 1)))
	for _, number := range []uint64{0, api.MaxNumber, api.MaxNumber + 1, math.MaxUint64} {
		s := open(t, c, 2, 0)
		s.Look(book(entry(1, number)))
		sends(t, "any number", s, toll(2, l[0], 0, entry(1, number)))
	}
}

// P13.4: name and amount are told as they stand in the queue.
func TestTold(t *testing.T) {
	c := three()
	l := copies(t, c, 1)
	for _, e := range []api.Entry{
		{Peer: 1, Number: 1}, {Peer: 1, Number: 1, Name: "\xff", Amount: math.MaxUint64}, {Peer: 1, Number: 1, Name: "Éa", Amount: api.MaxSupply},
	} {
		s := open(t, c, 6, 2)
		s.Look(book(e))
		sends(t, "as it stands", s, toll(6, l[0], 2, e))
	}
}

// P13.2, P13.5: entries whose peer is no peer count for nothing.
func TestNoPeer(t *testing.T) {
	c := three()
	none := []api.Entry{{}, entry(0, 1), entry(3, 1), entry(-1, 1), entry(7, 1), entry(8, 1), entry(math.MaxInt, 1), entry(math.MinInt, 1)}
	s := open(t, c, 2, 0)
	s.Look(book(none...))
	for range 9 {
		sends(t, "none", s)
	}
	for _, e := range none {
		wants(t, s, e.Peer, math.MaxUint64, false)
	}
	s.Look(book(append(none, entry(2, 4))...))
	sends(t, "one", s, toll(2, copies(t, c, 2)[0], 0, entry(2, 4)))
	wants(t, s, 2, 4, true)
	for _, e := range none {
		wants(t, s, e.Peer, math.MaxUint64, false)
	}
}

// P13.1: one shard alone has no peer.
func TestAlone(t *testing.T) {
	c := three()
	c.Shards = 1
	s := open(t, c, 2, 0)
	s.Look(book(entry(0, 1), entry(1, 1)))
	sends(t, "alone", s)
	wants(t, s, 0, 9, false)
	wants(t, s, 1, 9, false)
}

// P13.2: what of a book is not its queue is not looked at.
func TestQueueAlone(t *testing.T) {
	c := three()
	s := open(t, c, 2, 0)
	s.Look(api.Book{Shard: 1, Accounts: []api.Account{{Name: "x", Balance: 1}}, Queue: []api.Entry{entry(1, 3)}, Next: []uint64{9}, Marks: []uint64{9}, Slots: []api.Slot{{Peer: 2, Entry: 1}}})
	sends(t, "the queue", s, toll(2, copies(t, c, 1)[0], 0, entry(1, 3)))
	wants(t, s, 1, 2, false)
	wants(t, s, 1, 3, true)
}

// P13.2: when a pace is reset, and when it goes on: behind four ticks (T, T, f, T) the next time comes in four more, or with a reset at once.
func TestReset(t *testing.T) {
	goesOn, anew := "fffTfffT", "TTfTfffT"
	other := entry(1, 5)
	other.Name, other.Amount = "else", 1
	for _, c := range []struct {
		what string
		rows [][]api.Entry // a Look each; nil: a Stop
		want string
	}{
		{"no Look", nil, goesOn},
		{"the same", [][]api.Entry{{entry(1, 5)}}, goesOn},
		{"the same again and again", [][]api.Entry{{entry(1, 5)}, {entry(1, 5)}, {entry(1, 5)}}, goesOn},
		{"another name and amount", [][]api.Entry{{other}}, goesOn},
		{"more behind it", [][]api.Entry{{entry(1, 5), entry(1, 6), entry(2, 1)}}, goesOn},
		{"others ahead of it", [][]api.Entry{{entry(2, 1), entry(0, 9), entry(1, 5), entry(1, 4)}}, goesOn},
		{"the next", [][]api.Entry{{entry(1, 6)}}, anew},
		{"a lesser one", [][]api.Entry{{entry(1, 4)}}, anew},
		{"none", [][]api.Entry{{entry(1, 0)}}, anew},
		{"a lesser one ahead", [][]api.Entry{{entry(1, 4), entry(1, 5)}}, anew},
		{"a greater one ahead", [][]api.Entry{{entry(1, 6), entry(1, 5)}}, anew},
		{"another one and back", [][]api.Entry{{entry(1, 6)}, {entry(1, 5)}}, anew},
		{"none between", [][]api.Entry{{}, {entry(1, 5)}}, anew},
		{"another peer's between", [][]api.Entry{{entry(2, 5)}, {entry(1, 5)}}, anew},
		{"a Stop between", [][]api.Entry{nil, {entry(1, 5)}}, anew},
		{"two Stops between", [][]api.Entry{nil, nil, {entry(1, 5)}}, anew},
	} {
		s := open(t, three(), 2, 0)
		s.Look(book(entry(1, 5)))
		goes(t, c.what, s, 1, "TTfT")
		for _, row := range c.rows {
			if row == nil {
				s.Stop()
			} else {
				s.Look(book(row...))
			}
		}
		goes(t, c.what, s, 1, c.want)
	}
}

// P13.2: an entry of the number 0 is one like others.
func TestNumberZero(t *testing.T) {
	s := open(t, three(), 2, 0)
	s.Look(book(entry(1, 0)))
	goes(t, "first", s, 1, "TTfT")
	s.Look(book(entry(1, 0)))
	goes(t, "the same", s, 1, "fffT")
	s.Look(book())
	goes(t, "none", s, 1, "ffff")
	s.Look(book(entry(1, 0)))
	goes(t, "again", s, 1, "TTfT")
}

// P13.2, P13.4: what is sent is the first entry of the book that was shown last, also where the number is the same.
func TestShownLast(t *testing.T) {
	c := three()
	l := copies(t, c, 1)
	other := entry(1, 5)
	other.Name, other.Amount = "else", 1
	s := open(t, c, 2, 0)
	s.Look(book(entry(1, 5)))
	sends(t, "first", s, toll(2, l[0], 0, entry(1, 5)))
	s.Look(book(other))
	sends(t, "another name", s, toll(2, l[1], 0, other))
	sends(t, "not yet", s)
	s.Look(book(entry(1, 6)))
	s.Look(book(entry(1, 7)))
	sends(t, "the last", s, toll(2, l[2], 0, entry(1, 7)))
	s.Look(book(entry(2, 1)))
	sends(t, "none any more", s, toll(2, copies(t, c, 2)[0], 0, entry(2, 1)))
	s.Look(api.Book{})
	for range 9 {
		sends(t, "no queue", s)
	}
}

// P13.2: one peer's new first entry lets the other peers' paces go on.
func TestResetOfOneAlone(t *testing.T) {
	s := open(t, three(), 2, 0)
	s.Look(book(entry(1, 1), entry(2, 1)))
	goes(t, "both", s, 2, "TTfT")
	s.Look(book(entry(1, 2), entry(2, 1)))
	goes(t, "the one that stays", s, 2, "fffT")
	s.Look(book(entry(2, 1)))
	goes(t, "the other is gone", s, 2, "fffT")
	s.Look(book(entry(2, 1), entry(1, 3)))
	goes(t, "the other comes", s, 2, "fffT")
	s.Look(book(entry(2, 2), entry(1, 3)))
	goes(t, "that one goes on", s, 1, "fffT")
}

// P13.4: the pace of each peer ticks for itself: one that comes later begins later.
func TestPacesApart(t *testing.T) {
	c := three()
	one, two := copies(t, c, 1), copies(t, c, 2)
	a, b := entry(1, 1), entry(2, 1)
	s := open(t, c, 2, 0)
	s.Look(book(a))
	sends(t, "1", s, toll(2, one[0], 0, a))
	sends(t, "2", s, toll(2, one[1], 0, a))
	sends(t, "3", s)
	s.Look(book(b, a))
	sends(t, "4", s, toll(2, one[2], 0, a), toll(2, two[0], 0, b))
	sends(t, "5", s, toll(2, two[1], 0, b))
	sends(t, "6", s)
	sends(t, "7", s, toll(2, two[2], 0, b))
	sends(t, "8", s, toll(2, one[0], 0, a))
}

// P13.2, P13.3: turns stay where they are, at a Look, a reset, a Stop, and while the peer has nothing.
func TestTurnsStay(t *testing.T) {
	c := three()
	l := copies(t, c, 1)
	e := entry(1, 1)
	s := open(t, c, 2, 0)
	s.Look(book(e))
	sends(t, "first", s, toll(2, l[0], 0, e))
	s.Stop()
	sends(t, "stopped", s)
	s.Stop()
	s.Look(book(e))
	sends(t, "behind Stop", s, toll(2, l[1], 0, e))
	s.Look(book(entry(2, 1)))
	s.Tick()
	s.Tick()
	s.Look(book(e))
	sends(t, "behind nothing", s, toll(2, l[2], 0, e))
	s.Look(book(entry(1, 2)))
	sends(t, "the next entry", s, toll(2, l[0], 0, entry(1, 2)))
	sends(t, "the second time", s, toll(2, l[1], 0, entry(1, 2)))
	sends(t, "not yet", s)
	sends(t, "the third", s, toll(2, l[2], 0, entry(1, 2)))
}

// P13.3: behind Stop there is no book, till one is shown.
func TestStop(t *testing.T) {
	c := three()
	s := open(t, c, 2, 0)
	s.Stop()
	sends(t, "never a book", s)
	s.Look(book(entry(1, 1), entry(2, 1)))
	s.Stop()
	for range 9 {
		sends(t, "stopped", s)
	}
	wants(t, s, 1, 1, false)
	wants(t, s, 2, math.MaxUint64, false)
	s.Look(book(entry(2, 1)))
	sends(t, "a book again", s, toll(2, copies(t, c, 2)[0], 0, entry(2, 1)))
	wants(t, s, 1, 1, false)
	wants(t, s, 2, 1, true)
}

// P13.5: the edges of numbers and peers.
func TestWants(t *testing.T) {
	s := open(t, three(), 2, 1)
	s.Look(book(entry(0, 5), entry(0, 6), entry(1, 1)))
	for number, want := range map[uint64]bool{0: false, 1: false, 4: false, 5: true, 6: true, 7: true, api.MaxNumber: true, math.MaxUint64: true} {
		wants(t, s, 0, number, want)
		for _, peer := range []int{1, 2, 3, -1, 8, math.MaxInt, math.MinInt} {
			wants(t, s, peer, number, false)
		}
	}
	s.Tick()
	wants(t, s, 0, 4, false)
	wants(t, s, 0, 5, true)
	s.Look(book(entry(0, 6)))
	wants(t, s, 0, 5, false)
	wants(t, s, 0, 6, true)
	s.Look(book())
	wants(t, s, 0, math.MaxUint64, false)
}

// P13.5: any entry of the peer counts, not the first one alone.
func TestWantsAny(t *testing.T) {
	s := open(t, three(), 2, 0)
	s.Look(book(entry(1, 9), entry(2, 1), entry(1, 4), entry(1, 7), entry(2, 0)))
	wants(t, s, 1, 3, false)
	wants(t, s, 1, 4, true)
	wants(t, s, 1, 8, true)
	wants(t, s, 2, 0, true)
	s.Look(book(entry(1, math.MaxUint64)))
	wants(t, s, 1, math.MaxUint64-1, false)
	wants(t, s, 1, math.MaxUint64, true)
}

// P13.5: asking changes nothing.
func TestWantsChangesNothing(t *testing.T) {
	s := open(t, three(), 2, 0)
	s.Look(book(entry(1, 1)))
	want := "TTfTfffTfff"
	for i := range want {
		wants(t, s, 1, 1, true)
		wants(t, s, 2, 1, false)
		goes(t, "between", s, 1, want[i:i+1])
	}
}
