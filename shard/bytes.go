package shard

import (
	"slices"

	"tally/api"
	"tally/code"
)

// Encode writes a book, Decode reads one.
func Encode(b api.Book) []byte {
	if !mayBe(b) {
		return nil
	}
	w := code.New()
	w.U8(uint8(b.Shard))
	lay(w, b.Accounts, layAccount)
	lay(w, b.Queue, layEntry)
	w.Var(uint64(len(b.Next)))
	for _, n := range counters(b) {
		w.Var(n.next)
		w.Var(n.mark)
	}
	lay(w, b.Slots, laySlot)
	return w.Out()
}

func Decode(b []byte) (book api.Book, bad api.Errno) {
	defer func() {
		if recover() != nil {
			book, bad = api.Book{}, api.ErrShardForm
		}
	}()
	return readBook(reading{code.Read(b)}), api.OK
}

// lay writes how many there are, and each of them.
func lay[T any](w *code.Writer, l []T, one func(*code.Writer, T)) {
	w.Var(uint64(len(l)))
	for _, x := range l {
		one(w, x)
	}
}

func layAccount(w *code.Writer, a api.Account) {
	w.Bytes([]byte(a.Name))
	w.Var(a.Balance)
}

func layEntry(w *code.Writer, e api.Entry) {
	w.U8(uint8(e.Peer))
	w.Var(e.Number)
	w.Bytes([]byte(e.Name))
	w.Var(e.Amount)
}

func laySlot(w *code.Writer, s api.Slot) {
	w.Var(s.Number)
	w.Var(uint64(s.Bad))
	w.U8(uint8(s.Peer))
	w.Var(s.Entry)
}

// reading gives up by panic at its first fault, and Decode takes that up: so none in between has to look for one.
type reading struct{ from *code.Reader }

func (r reading) shard() int { return int(sound(r, r.from.U8())) }

func (r reading) number(most uint64) uint64 { return sound(r, r.from.Var(most)) }

func (r reading) name() string { return string(sound(r, r.from.Bytes(api.MaxName))) }

// sound hands on what was read, if it was there.
func sound[T any](r reading, read T) T {
	if bad := r.from.Fault(); bad != api.OK {
		panic(bad)
	}
	return read
}

// row reads how many there are, at most so many, and each of them.
func row[T any](r reading, most uint64, one func(reading) T) []T {
	out := make([]T, r.number(most))
	for i := range out {
		out[i] = one(r)
	}
	return out
}

// readBook reads a book that may be, up to the last byte. Each number has one form in bytes, so they are just those that Encode writes of it.
func readBook(r reading) api.Book {
	b := api.Book{Shard: r.shard()}
	b.Accounts = row(r, api.MaxAccounts, reading.account)
	b.Queue = row(r, api.MaxQueue, reading.entry)
	pairs := row(r, api.MaxShards, reading.counter)
	b.Next = slices.Collect(each(pairs, func(n counter) uint64 { return n.next }))
	b.Marks = slices.Collect(each(pairs, func(n counter) uint64 { return n.mark }))
	b.Slots = row(r, api.MaxClients, reading.slot)
	if r.from.End() != api.OK || !mayBe(b) {
		panic(api.ErrShardForm)
	}
	return b
}

func (r reading) account() api.Account {
	return api.Account{Name: r.name(), Balance: r.number(api.MaxSupply)}
}

func (r reading) entry() api.Entry {
	return api.Entry{Peer: r.shard(), Number: r.number(api.MaxNumber), Name: r.name(), Amount: r.number(api.MaxSupply)}
}

func (r reading) counter() counter {
	return counter{next: r.number(api.MaxNumber), mark: r.number(api.MaxNumber)}
}

func (r reading) slot() api.Slot {
	return api.Slot{Number: r.number(api.MaxNumber), Bad: api.Errno(r.number(uint64(api.BadNumber))), Peer: r.shard(), Entry: r.number(api.MaxNumber)}
}
