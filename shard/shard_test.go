package shard_test

import (
	"math"
	"slices"
	"strings"
	"testing"

	"tally/api"
	"tally/shard"
	"tally/text"
)

// The chapter's example 1.
func TestExampleNew(t *testing.T) {
	is(t, "P12.1: New", shard.New(bank(), 1), "shard 1 accounts [{Zed 5} {zoe 7}] queue [] next [1 1] marks [0 0] slots [{0 0 0 0} {0 0 0 0}]")
}

// The chapter's examples 2, 4 and 5.
func TestExampleSubmit(t *testing.T) {
	c := bank()
	first := "shard 0 accounts [{al 6}] queue [{1 1 Zed 4}] next [1 2] marks [0 0] slots [{3 0 1 1} {0 0 0 0}]"
	b := submits(t, c, shard.New(c, 0), pay(0, 3, "al", "ZED", 4), api.OK, true, first)
	submits(t, c, b, pay(0, 3, "al", "ZED", 4), api.OK, false, first)
	submits(t, c, b, pay(0, 2, "al", "ZED", 4), api.BadOld, false, first)
	submits(t, c, b, pay(2, 4, "al", "ZED", 4), api.BadNumber, false, first)
	refused := submits(t, c, b, pay(0, 4, "al", "zed", 7), api.BadFunds, true, "shard 0 accounts [{al 6}] queue [{1 1 Zed 4}] next [1 2] marks [0 0] slots [{4 304 0 0} {0 0 0 0}]")

	free := "shard 0 accounts [{al 6}] queue [] next [1 2] marks [0 0] slots [{3 0 1 1} {0 0 0 0}]"
	let, ok := shard.Settled(b, 1, 9)
	if is(t, "P12.6: Settled", let, free); !ok {
		t.Error("P12.6: there was an entry")
	}
	again, ok := shard.Settled(let, 1, 9)
	if is(t, "P12.6: Settled again", again, free); ok {
		t.Error("P12.6: there was no entry any more")
	}

	stands(t, b, 0, 3, api.StatePending, api.OK)
	stands(t, let, 0, 3, api.StateSettled, api.OK)
	stands(t, b, 0, 2, api.StateOld, api.OK)
	stands(t, b, 0, 9, api.StateNone, api.OK)
	stands(t, refused, 0, 4, api.StateRefused, api.BadFunds)
}

// stands holds what Status tells against what it is to tell.
func stands(t *testing.T, b api.Book, client int, number uint64, state int, bad api.Errno) {
	t.Helper()
	if s, e := shard.Status(b, client, number); s != state || e != bad {
		t.Errorf("P12.7: Status of %d, %d: %d, %d, want %d, %d", client, number, s, e, state, bad)
	}
}

// credits holds what a Credit does against what it is to do.
func credits(t *testing.T, b api.Book, source int, e api.Entry, done bool, want string) api.Book {
	t.Helper()
	got, ok := shard.Credit(bank(), b, source, e)
	if ok != done || told(got) != want {
		t.Fatalf("P12.5: %s credits %v from %d:\n%v %s, want\n%v %s", told(b), e, source, ok, told(got), done, want)
	}
	return got
}

// The chapter's example 3.
func TestExampleCredit(t *testing.T) {
	want := "shard 1 accounts [{Zed 9} {zoe 7}] queue [] next [1 1] marks [1 0] slots [{0 0 0 0} {0 0 0 0}]"
	b := credits(t, shard.New(bank(), 1), 0, entry(1, 1, "zed", 4), true, want)
	credits(t, b, 0, entry(1, 1, "zed", 4), false, want)
	credits(t, b, 0, entry(1, 3, "zed", 4), false, want)
}

// P12.1: every account stands at its home and nowhere else, as the configuration spells it, by folds (not as it is spelled), for all numbers of shards and clients.
func TestNew(t *testing.T) {
	c := bank()
	for _, n := range []string{"Zed-2", "b", "A", "É", "é2", "Ö", "×", "Ω", "a.b", "a-b", "a_b", "B2", "y", "X9"} {
		c.Accounts = append(c.Accounts, api.Account{Name: n, Balance: uint64(len(c.Accounts))})
	}
	for c.Shards = 1; c.Shards <= api.MaxShards; c.Shards++ {
		for c.Clients = 1; c.Clients <= api.MaxClients; c.Clients++ {
			seen := 0
			for k := range c.Shards {
				b := shard.New(c, k)
				seen += len(b.Accounts)
				for _, a := range b.Accounts {
					if !slices.Contains(c.Accounts, a) || text.Home(a.Name, c.Shards) != k {
						t.Fatalf("P12.1: %v at %d of %d", a, k, c.Shards)
					}
				}
				if why := fault(b); why != "" || b.Shard != k || len(b.Queue) != 0 || len(b.Next) != c.Shards || len(b.Slots) != c.Clients {
					t.Fatalf("P12.1: %s: %s", told(b), why)
				}
				if slices.Min(b.Next)+slices.Max(b.Next) != 2 || slices.Max(b.Marks) != 0 || slices.Contains(b.Slots, api.Slot{Number: 1}) {
					t.Fatalf("P12.1: %s", told(b))
				}
			}
			if seen != len(c.Accounts) {
				t.Fatalf("P12.1: %d accounts at %d shards", seen, c.Shards)
			}
		}
	}
	c = api.Config{Shards: 1, Clients: 1, Queue: 1, Accounts: []api.Account{{Name: "b", Balance: 1}, {Name: "C", Balance: 2}, {Name: "a", Balance: 3}, {Name: "É"}, {Name: "ê"}, {Name: "×"}, {Name: "Z"}}}
	is(t, "P12.1: by folds", shard.New(c, 0), "shard 0 accounts [{a 3} {b 1} {C 2} {Z 0} {× 0} {É 0} {ê 0}] queue [] next [1] marks [0] slots [{0 0 0 0}]")
	c.Accounts = nil
	is(t, "P12.1: nobody", shard.New(c, 0), "shard 0 accounts [] queue [] next [1] marks [0] slots [{0 0 0 0}]")
}

// P12.4: whose request it is, and its number, are looked at ahead of all else; the answer is false, and the book is as it was.
func TestSubmitNumbers(t *testing.T) {
	c := bank()
	b := shard.New(c, 0)
	b.Slots[1] = api.Slot{Number: 5, Bad: api.BadZero}
	for _, client := range []int{-1, 2, 3, 1 << 40, math.MinInt, math.MaxInt} {
		submits(t, c, b, pay(client, 1, "al", "Zed", 1), api.BadNumber, false, told(b))
	}
	for client := range 2 {
		for _, n := range []uint64{0, api.MaxNumber + 1, 1 << 63, math.MaxUint64} {
			submits(t, c, b, pay(client, n, "al", "Zed", 1), api.BadNumber, false, told(b))
		}
	}
	submits(t, c, b, pay(1, 1, "al", "Zed", 1), api.BadOld, false, told(b))
	submits(t, c, b, pay(1, 4, "nobody", "Zed", 0), api.BadOld, false, told(b))
	submits(t, c, b, pay(1, 5, "nobody", "al", 1), api.BadZero, false, told(b))
	submits(t, c, b, api.Request{Client: 1, Number: 5}, api.BadZero, false, told(b))
	submits(t, c, b, pay(1, 6, "al", "Zed", 1), api.OK, true, "shard 0 accounts [{al 9}] queue [{1 1 Zed 1}] next [1 2] marks [0 0] slots [{0 0 0 0} {6 0 1 1}]")
	submits(t, c, b, pay(0, api.MaxNumber, "al", "Zed", 1), api.OK, true, "shard 0 accounts [{al 9}] queue [{1 1 Zed 1}] next [1 2] marks [0 0] slots [{1099511627776 0 1 1} {5 301 0 0}]")
}

// P12.4: the verdicts, each ahead of those behind it, at their edges.
func TestVerdicts(t *testing.T) {
	c := bank()
	c.Accounts = append(c.Accounts, api.Account{Name: "Eve", Balance: 3}, api.Account{Name: "d", Balance: 2}) // home 0, both
	b := shard.New(c, 0)
	b.Accounts = b.Accounts[:2:2] // al, d: Eve is of this shard, but the book has her not
	b.Accounts = append(b.Accounts, api.Account{Name: "f", Balance: 100})
	full := clone(b)
	full.Next[1], full.Queue = api.MaxNumber, []api.Entry{entry(1, api.MaxNumber-2, "Zed", 1), entry(1, api.MaxNumber-1, "Zed", 1)}
	none := clone(b)
	none.Next[1] = api.MaxNumber
	for i, s := range []struct {
		b      api.Book
		name   string
		other  string
		amount uint64
		want   api.Errno
	}{
		{full, "nobody", "Zed", 0, api.BadAccount}, {full, "", "Zed", 0, api.BadAccount}, {full, "Zed", "al", 0, api.BadAccount}, {full, "Eve", "al", 1, api.BadAccount},
		{full, "al", "nobody", 0, api.BadAccount}, {full, "al", "", 0, api.BadAccount}, {full, "al", "Eve", 0, api.BadAccount}, {full, "al", "eVe", 1000, api.BadAccount}, {full, "nobody", "nobody", 0, api.BadAccount},
		{b, "al", "f", 1, api.BadAccount}, {b, "f", "f", 1, api.BadAccount}, // f is of the book, not of the configuration: it can pay, but not be paid
		{full, "al", "AL", 0, api.BadZero}, {full, "al", "Zed", 0, api.BadZero}, {b, "al", "d", 0, api.BadZero},
		{full, "al", "AL", 1, api.BadSame}, {b, "Al", "aL", 1000, api.BadSame}, {b, "al", "al", math.MaxUint64, api.BadSame},
		{full, "al", "Zed", 28, api.BadSupply}, {b, "al", "D", 28, api.BadSupply}, {b, "al", "Zed", math.MaxUint64, api.BadSupply}, {b, "f", "Zed", 28, api.BadSupply},
		{full, "al", "Zed", 27, api.BadFunds}, {full, "al", "Zed", 11, api.BadFunds}, {b, "al", "d", 11, api.BadFunds}, {b, "d", "Zed", 3, api.BadFunds},
		{full, "al", "Zed", 10, api.BadQueue}, {full, "f", "zoe", 27, api.BadQueue},
		{none, "al", "Zed", 10, api.BadNumber}, {none, "f", "zoe", 27, api.BadNumber},
		{full, "al", "d", 10, api.OK}, {none, "d", "al", 2, api.OK}, {b, "al", "Zed", 10, api.OK}, {b, "f", "zoe", 27, api.OK},
	} {
		got, bad, ok := shard.Submit(c, s.b, pay(1, 7, s.name, s.other, s.amount))
		if bad != s.want || !ok || got.Slots[1].Number != 7 || got.Slots[1].Bad != bad {
			t.Errorf("P12.4: %d: %d %v %v, want %d", i, bad, ok, got.Slots[1], s.want)
		}
		if bad == api.OK {
			continue
		}
		if got.Slots[1] = (api.Slot{}); told(got) != told(s.b) {
			t.Errorf("P12.4: %d: refused, and %s, want %s", i, told(got), told(s.b))
		}
	}
}

// P12.4: the queue's bound is the configuration's, and a fuller queue is full, too.
func TestQueueBound(t *testing.T) {
	c := bank()
	c.Accounts[0].Balance = 100
	for c.Queue = 1; c.Queue <= api.MaxQueue; c.Queue++ {
		b := shard.New(c, 0)
		for n := range uint64(api.MaxQueue + 1) {
			var bad api.Errno
			b, bad, _ = shard.Submit(c, b, pay(0, n+1, "al", "zoe", 1))
			if want := int(n) >= c.Queue; want != (bad == api.BadQueue) || len(b.Queue) != min(c.Queue, int(n)+1) {
				t.Fatalf("P12.4: %d of %d: %d, %v", n, c.Queue, bad, b.Queue)
			}
		}
		less := c
		less.Queue = 1
		if _, bad, _ := shard.Submit(less, b, pay(1, 1, "al", "zoe", 1)); bad != api.BadQueue {
			t.Errorf("P12.4: %d entries of 1: %d", len(b.Queue), bad)
		}
	}
}

// P12.4: the last number is MaxNumber - 1: then there is none any more.
func TestLastNumber(t *testing.T) {
	c := bank()
	b := shard.New(c, 0)
	b.Next[1] = api.MaxNumber - 1
	b = submits(t, c, b, pay(0, 1, "al", "Zed", 1), api.OK, true, "shard 0 accounts [{al 9}] queue [{1 1099511627775 Zed 1}] next [1 1099511627776] marks [0 0] slots [{1 0 1 1099511627775} {0 0 0 0}]")
	submits(t, c, b, pay(0, 2, "al", "Zed", 1), api.BadNumber, true, "shard 0 accounts [{al 9}] queue [{1 1099511627775 Zed 1}] next [1 1099511627776] marks [0 0] slots [{2 307 0 0} {0 0 0 0}]")
}

// P12.4: within the shard the amount is there at once, and the slot tells no entry, whatever it told ahead; r.Op is not looked at.
func TestSubmitHere(t *testing.T) {
	c := bank()
	b := shard.New(c, 1)
	b.Next[0], b.Slots[0] = 3, api.Slot{Number: 1, Peer: 0, Entry: 2}
	for _, op := range []int{api.CallNone, api.CallSubmit, api.CallBalance, api.CallStatus, -1, 99} {
		r := pay(0, 2, "zed", "ZOE", 5)
		r.Op = op
		submits(t, c, b, r, api.OK, true, "shard 1 accounts [{Zed 0} {zoe 12}] queue [] next [3 1] marks [0 0] slots [{2 0 0 0} {0 0 0 0}]")
	}
}

// P12.4: entries to several peers stand in one queue, each with its peer's number, at the end.
func TestPeers(t *testing.T) {
	c := api.Config{Shards: 3, Clients: 1, Queue: 5}
	at := [][]string{names(1, 0, 3), names(2, 1, 3), names(1, 2, 3)}
	for _, l := range at {
		for _, n := range l {
			c.Accounts = append(c.Accounts, api.Account{Name: n, Balance: 9})
		}
	}
	b := shard.New(c, 1)
	b.Next[2] = 7
	for i, to := range []string{at[2][0], at[0][0], at[1][1], strings.ToLower(at[2][0]), at[0][0]} {
		b, _, _ = shard.Submit(c, b, pay(0, uint64(i+1), at[1][0], to, uint64(i+1)))
	}
	// 9 - 1 - 2 - 3 is 3: 4 and 5 are too much.
	want := []api.Entry{entry(2, 7, at[2][0], 1), entry(0, 1, at[0][0], 2)}
	if !slices.Equal(b.Queue, want) || !slices.Equal(b.Next, []uint64{2, 1, 8}) || b.Slots[0] != (api.Slot{Number: 5, Bad: api.BadFunds}) {
		t.Fatalf("P12.4: %s", told(b))
	}
	b, _, _ = shard.Submit(c, b, pay(0, 6, strings.ToLower(at[1][1]), strings.ToLower(at[2][0]), 12))
	want = append(want, entry(2, 8, at[2][0], 12))
	if !slices.Equal(b.Queue, want) || !slices.Equal(b.Next, []uint64{2, 1, 9}) || b.Slots[0] != (api.Slot{Number: 6, Peer: 2, Entry: 8}) {
		t.Fatalf("P12.4: %s", told(b))
	}
}

// P12.5: all that hinders a credit.
func TestCreditRefused(t *testing.T) {
	b := shard.New(bank(), 1)
	b.Marks[0] = 4
	for _, source := range []int{-1, 1, 2, 3, math.MinInt, math.MaxInt} {
		credits(t, b, source, entry(1, 5, "zed", 4), false, told(b))
		credits(t, b, source, entry(1, 1, "zed", 4), false, told(b))
	}
	for _, peer := range []int{-1, 0, 2, math.MinInt, math.MaxInt} {
		credits(t, b, 0, entry(peer, 5, "zed", 4), false, told(b))
	}
	for _, n := range []uint64{0, 1, 3, 4, 6, 1 << 40, math.MaxUint64} {
		credits(t, b, 0, entry(1, n, "zed", 4), false, told(b))
	}
	for _, name := range []string{"", "al", "nobody", "zed ", "\xff", strings.Repeat("z", 1000)} {
		credits(t, b, 0, entry(1, 5, name, 4), false, told(b))
	}
	for _, n := range []uint64{0, api.MaxSupply - 11, api.MaxSupply, api.MaxSupply + 1, math.MaxUint64 - 12, math.MaxUint64 - 11, math.MaxUint64} {
		credits(t, b, 0, entry(1, 5, "zed", n), false, told(b))
	}
	credits(t, b, 0, entry(1, 5, "zoe", api.MaxSupply-12), true, "shard 1 accounts [{Zed 5} {zoe 9007199254740987}] queue [] next [1 1] marks [5 0] slots [{0 0 0 0} {0 0 0 0}]")
	credits(t, b, 0, entry(1, 5, "zED", 1), true, "shard 1 accounts [{Zed 6} {zoe 7}] queue [] next [1 1] marks [5 0] slots [{0 0 0 0} {0 0 0 0}]")
}

// P12.5: the last entry is MaxNumber's at most.
func TestCreditLast(t *testing.T) {
	b := shard.New(bank(), 1)
	b.Marks[0] = api.MaxNumber - 1
	b = credits(t, b, 0, entry(1, api.MaxNumber, "Zed", 1), true, "shard 1 accounts [{Zed 6} {zoe 7}] queue [] next [1 1] marks [1099511627776 0] slots [{0 0 0 0} {0 0 0 0}]")
	credits(t, b, 0, entry(1, api.MaxNumber+1, "Zed", 1), false, told(b))
}

// P12.6: just that peer's entries up to that number leave; the others stay in their order.
func TestSettled(t *testing.T) {
	b := api.Book{Shard: 1, Next: []uint64{5, 1, 9}, Marks: []uint64{0, 0, 0}, Slots: []api.Slot{{}}}
	zero, two := names(1, 0, 3)[0], names(1, 2, 3)[0]
	b.Queue = []api.Entry{entry(2, 7, two, 1), entry(0, 3, zero, 2), entry(0, 4, zero, 3), entry(2, 8, two, 4)}
	if why := fault(b); why != "" {
		t.Fatal(why)
	}
	for i, s := range []struct {
		peer   int
		number uint64
		left   []int
	}{
		{0, 0, []int{0, 1, 2, 3}}, {0, 2, []int{0, 1, 2, 3}}, {0, 3, []int{0, 2, 3}}, {0, 4, []int{0, 3}}, {0, math.MaxUint64, []int{0, 3}},
		{2, 6, []int{0, 1, 2, 3}}, {2, 7, []int{1, 2, 3}}, {2, 8, []int{1, 2}}, {2, 1 << 40, []int{1, 2}},
		{1, 9, []int{0, 1, 2, 3}}, {-1, 9, []int{0, 1, 2, 3}}, {3, 9, []int{0, 1, 2, 3}}, {math.MaxInt, 9, []int{0, 1, 2, 3}}, {math.MinInt, 9, []int{0, 1, 2, 3}},
	} {
		want := clone(b)
		want.Queue = nil
		for _, at := range s.left {
			want.Queue = append(want.Queue, b.Queue[at])
		}
		got, ok := shard.Settled(b, s.peer, s.number)
		if is(t, "P12.6: Settled", got, told(want)); ok != (len(s.left) < 4) {
			t.Errorf("P12.6: %d: %v", i, ok)
		}
	}
}

// P12.7: an account is found however it is spelled, and no other one is.
func TestBalance(t *testing.T) {
	b := shard.New(bank(), 1)
	for _, s := range []struct {
		name string
		has  uint64
		bad  api.Errno
	}{{"Zed", 5, api.OK}, {"zed", 5, api.OK}, {"ZED", 5, api.OK}, {"zoe", 7, api.OK}, {"ZOE", 7, api.OK}, {"al", 0, api.BadAccount}, {"", 0, api.BadAccount}, {"ze", 0, api.BadAccount}, {"zeda", 0, api.BadAccount}, {"\xff", 0, api.BadAccount}} {
		if n, bad := shard.Balance(b, s.name); n != s.has || bad != s.bad {
			t.Errorf("P12.7: %q: %d, %d", s.name, n, bad)
		}
	}
	if n, bad := shard.Balance(api.Book{}, "zed"); n != 0 || bad != api.BadAccount {
		t.Errorf("P12.7: of no book: %d, %d", n, bad)
	}
}

// P12.7: what has become of requests, at the edges of their numbers and of their entries.
func TestStatus(t *testing.T) {
	two := names(1, 2, 3)[0]
	b := api.Book{Shard: 0, Next: []uint64{1, 6, 6}, Marks: []uint64{0, 0, 0}, Queue: []api.Entry{entry(2, 4, two, 1), entry(2, 5, two, 1)}}
	b.Slots = []api.Slot{{}, {Number: 7, Bad: api.BadAccount}, {Number: 7}, {Number: 7, Peer: 2, Entry: 4}, {Number: 7, Peer: 2, Entry: 3}, {Number: 7, Peer: 1, Entry: 4}, {Number: api.MaxNumber, Bad: api.BadNumber}}
	if why := fault(b); why != "" {
		t.Fatal(why)
	}
	for client := range 6 {
		stands(t, b, client, 0, api.StateNone, api.OK)
		stands(t, b, client, 8, api.StateNone, api.OK)
		stands(t, b, client, math.MaxUint64, api.StateNone, api.OK)
		if client > 0 {
			stands(t, b, client, 1, api.StateOld, api.OK)
			stands(t, b, client, 6, api.StateOld, api.OK)
		}
	}
	stands(t, b, 0, 1, api.StateNone, api.OK)
	stands(t, b, 1, 7, api.StateRefused, api.BadAccount)
	stands(t, b, 2, 7, api.StateSettled, api.OK)
	stands(t, b, 3, 7, api.StatePending, api.OK)
	stands(t, b, 4, 7, api.StateSettled, api.OK)
	stands(t, b, 5, 7, api.StateSettled, api.OK)
	stands(t, b, 6, api.MaxNumber, api.StateRefused, api.BadNumber)
	stands(t, b, 6, api.MaxNumber-1, api.StateOld, api.OK)
	for _, client := range []int{-1, 7, 8, math.MinInt, math.MaxInt} {
		stands(t, b, client, 7, api.StateNone, api.OK)
	}
}
