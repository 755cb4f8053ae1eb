package shard_test

import (
	"slices"
	"testing"

	"tally/api"
	"tally/shard"
)

// roomy: a copy of a list that stands in the midst of a greater one; the greater one, too.
func roomy[T any](l []T, fill T) (piece, whole []T) {
	whole = slices.Concat([]T{fill}, l, []T{fill, fill, fill})
	return whole[1 : 1+len(l)], whole
}

// held: a book whose lists stand in the midst of greater ones, and a telling of all of these.
func held(b api.Book) (api.Book, func() string) {
	var accounts []api.Account
	var queue []api.Entry
	var next, marks []uint64
	var slots []api.Slot
	b.Accounts, accounts = roomy(b.Accounts, api.Account{Name: "room"})
	b.Queue, queue = roomy(b.Queue, api.Entry{Name: "room"})
	b.Next, next = roomy(b.Next, 77)
	b.Marks, marks = roomy(b.Marks, 78)
	b.Slots, slots = roomy(b.Slots, api.Slot{Number: 79})
	return b, func() string {
		return told(api.Book{Accounts: accounts, Queue: queue, Next: next, Marks: marks, Slots: slots})
	}
}

// wipe writes over all lists of a book, and over the room behind their ends.
func wipe(b api.Book) {
	over(b.Accounts, api.Account{Name: "gone", Balance: 99})
	over(b.Queue, api.Entry{Name: "gone", Amount: 99})
	over(b.Next, 98)
	over(b.Marks, 97)
	over(b.Slots, api.Slot{Number: 96})
}

func over[T any](l []T, fill T) {
	l = l[:cap(l)]
	for i := range l {
		l[i] = fill
	}
}

// A deed of the chapter, over a book that may be of shard 0 of two.
type deed struct {
	what string
	do   func(c api.Config, b api.Book) api.Book
}

func deeds() []deed {
	submit := func(r api.Request) func(c api.Config, b api.Book) api.Book {
		return func(c api.Config, b api.Book) api.Book {
			out, _, _ := shard.Submit(c, b, r)
			return out
		}
	}
	credit := func(e api.Entry) func(c api.Config, b api.Book) api.Book {
		return func(c api.Config, b api.Book) api.Book {
			out, _ := shard.Credit(c, b, 1, e)
			return out
		}
	}
	settled := func(peer int) func(c api.Config, b api.Book) api.Book {
		return func(_ api.Config, b api.Book) api.Book {
			out, _ := shard.Settled(b, peer, 1)
			return out
		}
	}
	return []deed{
		{"no client", submit(pay(5, 9, "al", "zoe", 1))}, {"old", submit(pay(0, 1, "al", "zoe", 1))}, {"again", submit(pay(0, 3, "al", "zoe", 1))},
		{"refused", submit(pay(0, 9, "al", "zoe", 99))}, {"away", submit(pay(1, 9, "al", "zoe", 1))}, {"here", submit(pay(0, 9, "al", "d", 1))},
		{"credit", credit(entry(0, 1, "al", 3))}, {"no credit", credit(entry(0, 2, "al", 3))},
		{"settled", settled(1)}, {"not settled", settled(0)},
	}
}

// start: a configuration and a book of it with something of everything.
func start() (api.Config, api.Book) {
	c := bank()
	c.Queue = 5
	c.Accounts = append(c.Accounts, api.Account{Name: "d", Balance: 8})
	b, _, _ := shard.Submit(c, shard.New(c, 0), pay(0, 2, "al", "Zed", 1))
	b, _, _ = shard.Submit(c, b, pay(0, 3, "al", "Zed", 1))
	return c, b
}

// P12.8, R2: what is handed in is not changed, nor is the room around it; what is answered shares nothing with it, whichever way it is changed later.
func TestDeedsMemory(t *testing.T) {
	for _, d := range deeds() {
		c, b := start()
		want := told(d.do(c, b))
		b, whole := held(b)
		accounts, roomOf := roomy(c.Accounts, api.Account{Name: "room"})
		c.Accounts = accounts
		was, wasRoom := whole(), slices.Clone(roomOf)
		got, twin := d.do(c, b), d.do(c, b)
		if whole() != was || !slices.Equal(roomOf, wasRoom) {
			t.Errorf("P12.8: %s: handed in is changed: %s, was %s", d.what, whole(), was)
		}
		is(t, "P12.8: "+d.what, got, want)
		wipe(twin)
		if whole() != was || !slices.Equal(roomOf, wasRoom) {
			t.Errorf("P12.8: %s: the answer shares memory with what was handed in: %s, was %s", d.what, whole(), was)
		}
		is(t, "P12.8: two answers: "+d.what, got, want)
		wipe(b)
		over(roomOf, api.Account{Name: "gone"})
		is(t, "P12.8: handed in is kept: "+d.what, got, want)
	}
}

// P12.8, R2: no two lists of a book share memory: each wiped in its turn leaves the others.
func TestListsApart(t *testing.T) {
	c, first := start()
	for _, d := range append(deeds(), deed{"new", func(c api.Config, _ api.Book) api.Book { return shard.New(c, 0) }}, deed{"read", func(_ api.Config, b api.Book) api.Book {
		out, _ := shard.Decode(shard.Encode(b))
		return out
	}}) {
		want := d.do(c, first)
		got := d.do(c, first)
		over(got.Next, 98)
		if !slices.Equal(got.Marks, want.Marks) {
			t.Errorf("P12.8: %s: next and marks share memory", d.what)
		}
		got = d.do(c, first)
		over(got.Marks, 98)
		if !slices.Equal(got.Next, want.Next) {
			t.Errorf("P12.8: %s: marks and next share memory", d.what)
		}
	}
}

// P12.8, R2: New keeps nothing of the configuration, and two first books share nothing.
func TestNewMemory(t *testing.T) {
	c := bank()
	accounts, whole := roomy(c.Accounts, api.Account{Name: "room"})
	c.Accounts = accounts
	was := slices.Clone(whole)
	one, two := shard.New(c, 1), shard.New(c, 1)
	want := told(one)
	wipe(two)
	if !slices.Equal(whole, was) {
		t.Errorf("P12.8: handed in is changed: %v", whole)
	}
	over(whole, api.Account{Name: "gone"})
	is(t, "P12.8: New", one, want)
}

// P12.8, R2: Encode and Decode: bytes and books share nothing, handed in is not changed.
func TestBytesMemory(t *testing.T) {
	b, whole := held(ample())
	was := whole()
	one, two := shard.Encode(b), shard.Encode(b)
	over(two, 'x')
	if whole() != was || string(one) != string(bytesOf(b)) {
		t.Errorf("P12.8: Encode: %s, %x", whole(), one)
	}
	in, all := roomy(one, 'r')
	want := string(all)
	got, _ := shard.Decode(in)
	again, _ := shard.Decode(in)
	wipe(again)
	if string(all) != want {
		t.Errorf("P12.8: Decode changes its bytes: %x", all)
	}
	over(all, 'x')
	is(t, "P12.8: Decode", got, told(b))
	shard.Balance(b, b.Accounts[0].Name)
	shard.Status(b, 0, 5)
	if whole() != was {
		t.Errorf("P12.8: Balance, Status: %s", whole())
	}
}

// R3: nil lists and empty ones are the same.
func TestEmptyLists(t *testing.T) {
	c := api.Config{Shards: 1, Clients: 1, Queue: 1}
	empty := c
	empty.Accounts = []api.Account{}
	is(t, "R3: New", shard.New(empty, 0), told(shard.New(c, 0)))
	a := api.Book{Next: []uint64{1}, Marks: []uint64{0}, Slots: []api.Slot{{}}}
	b := a
	b.Accounts, b.Queue = []api.Account{}, []api.Entry{}
	if string(shard.Encode(a)) != string(shard.Encode(b)) || len(shard.Encode(a)) == 0 {
		t.Errorf("R3: %x, %x", shard.Encode(a), shard.Encode(b))
	}
	for _, x := range []api.Book{a, b} {
		submits(t, c, x, pay(0, 1, "a", "b", 1), api.BadAccount, true, "shard 0 accounts [] queue [] next [1] marks [0] slots [{1 300 0 0}]")
		got, ok := shard.Settled(x, 0, 1)
		if is(t, "R3: Settled", got, told(a)); ok {
			t.Error("R3: Settled")
		}
	}
	if b, bad := shard.Decode([]byte{}); bad != api.ErrShardForm || told(b) != told(api.Book{}) {
		t.Errorf("R3: Decode: %d", bad)
	}
}
