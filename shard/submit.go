package shard

import (
	"tally/api"
	"tally/text"
)

// Submit carries a request out: the book behind it, the verdict, and whether the book has changed.
func Submit(c api.Config, b api.Book, r api.Request) (api.Book, api.Errno, bool) {
	b = copied(b)
	if !within(r.Client, len(b.Slots)) || r.Number < 1 || r.Number > api.MaxNumber {
		return b, api.BadNumber, false
	}
	slot := &b.Slots[r.Client]
	switch {
	case r.Number < slot.Number:
		return b, api.BadOld, false
	case r.Number == slot.Number:
		return b, slot.Bad, false
	}
	p, bad := judge(c, b, r)
	*slot = api.Slot{Number: r.Number, Bad: bad}
	if bad == api.OK {
		slot.Peer, slot.Entry = p.carryOut(&b)
	}
	return b, bad, true
}

// payment: a request whose accounts are found: where they stand in the book (to only, if it is of this book's shard), and what an entry must tell.
type payment struct {
	from, to int
	peer     int
	name     string // as the configuration spells it
	amount   uint64
}

// judge tells the verdict on a request that has not come before.
func judge(c api.Config, b api.Book, r api.Request) (payment, api.Errno) {
	p, found := find(c, b, r)
	away := p.peer != b.Shard
	switch {
	case !found:
		return p, api.BadAccount
	case r.Amount == 0:
		return p, api.BadZero
	case text.Fold(r.Name) == text.Fold(r.Other):
		return p, api.BadSame
	case r.Amount > sum(balances(c.Accounts)):
		return p, api.BadSupply
	case r.Amount > b.Accounts[p.from].Balance:
		return p, api.BadFunds
	case away && len(b.Queue) >= c.Queue:
		return p, api.BadQueue
	case away && !hasNext(b, p.peer):
		return p, api.BadNumber
	}
	return p, api.OK
}

// find tells which accounts a request means; false, if one of them is none.
func find(c api.Config, b api.Book, r api.Request) (payment, bool) {
	from, known := place(b.Accounts, named(r.Name)), place(c.Accounts, named(r.Other))
	if from < 0 || known < 0 {
		return payment{}, false
	}
	p := payment{from: from, to: place(b.Accounts, named(r.Other)), peer: text.Home(r.Other, c.Shards), name: c.Accounts[known].Name, amount: r.Amount}
	return p, p.to >= 0 || p.peer != b.Shard
}

// hasNext tells whether there is a number for one more entry to a peer.
func hasNext(b api.Book, peer int) bool { return other(b, peer) && b.Next[peer] < api.MaxNumber }

// carryOut moves the amount; it tells the entry that was made for it (its peer and number), zeros if none was.
func (p payment) carryOut(b *api.Book) (int, uint64) {
	b.Accounts[p.from].Balance -= p.amount
	if p.peer == b.Shard {
		b.Accounts[p.to].Balance += p.amount
		return 0, 0
	}
	e := api.Entry{Peer: p.peer, Number: b.Next[p.peer], Name: p.name, Amount: p.amount}
	b.Queue = append(b.Queue, e)
	b.Next[p.peer]++
	return e.Peer, e.Number
}
