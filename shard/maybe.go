package shard

import (
	"tally/api"
	"tally/text"
)

// firstNumber is the first entry's number, for each peer.
const firstNumber = 1

// mayBe tells whether a book may be. The shards are counted first: all else is held against how many there are.
func mayBe(b api.Book) bool {
	return shardsMayBe(b) && accountsMayBe(b) && countersMayBe(b) && queueMayBe(b) && slotsMayBe(b)
}

func shardsMayBe(b api.Book) bool {
	return len(b.Next) == len(b.Marks) && len(b.Next) <= api.MaxShards && within(b.Shard, len(b.Next))
}

func accountsMayBe(b api.Book) bool {
	if len(b.Accounts) > api.MaxAccounts || sum(balances(b.Accounts)) > api.MaxSupply {
		return false
	}
	return rise(b.Accounts) && all(b.Accounts, func(a api.Account) bool { return lives(b, a.Name, b.Shard) })
}

// rise tells whether the folds of accounts rise, none twice.
func rise(l []api.Account) bool {
	last := "" // below every good name
	for f := range folds(l) {
		if f <= last {
			return false
		}
		last = f
	}
	return true
}

// lives tells whether a name is good, and at home at that one of the book's shards.
func lives(b api.Book, name string, shard int) bool {
	return text.Check(name) == api.OK && text.Home(name, len(b.Next)) == shard
}

func countersMayBe(b api.Book) bool {
	for i, n := range counters(b) {
		if n.next < firstNumber || n.next > api.MaxNumber || n.mark > api.MaxNumber {
			return false
		}
		// No shard pays to itself by a queue.
		if i == b.Shard && n != (counter{next: firstNumber}) {
			return false
		}
	}
	return true
}

func queueMayBe(b api.Book) bool {
	if len(b.Queue) > api.MaxQueue || !all(b.Queue, func(e api.Entry) bool { return entryMayBe(b, e) }) {
		return false
	}
	for peer, n := range counters(b) {
		if !leadTo(n.next, b.Queue, peer) {
			return false
		}
	}
	return true
}

func entryMayBe(b api.Book, e api.Entry) bool {
	return other(b, e.Peer) && lives(b, e.Name, e.Peer) && 1 <= e.Amount && e.Amount <= api.MaxSupply
}

// leadTo tells whether the numbers of a peer's entries go up by one each, from the first number or a later one on, to just below the next one.
func leadTo(next uint64, l []api.Entry, peer int) bool {
	for n := range backward(l, peer) {
		if next == firstNumber || n != next-1 {
			return false
		}
		next = n
	}
	return true
}

func slotsMayBe(b api.Book) bool {
	return 1 <= len(b.Slots) && len(b.Slots) <= api.MaxClients && all(b.Slots, func(s api.Slot) bool { return slotMayBe(b, s) })
}

func slotMayBe(b api.Book, s api.Slot) bool {
	switch {
	case s.Number == 0:
		return s == api.Slot{}
	case s.Number > api.MaxNumber || !kept(s.Bad):
		return false
	case s.Entry == 0:
		return s.Peer == 0
	}
	return other(b, s.Peer) && s.Entry < b.Next[s.Peer] && s.Bad == api.OK
}

// kept tells whether a slot may keep a verdict: BadOld is told of requests that no slot keeps any more.
func kept(bad api.Errno) bool {
	return bad == api.OK || api.BadAccount <= bad && bad <= api.BadNumber && bad != api.BadOld
}
