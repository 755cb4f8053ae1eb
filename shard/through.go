package shard

import (
	"iter"
	"math"

	"tally/api"
)

// each goes through what is told of a list's elements.
func each[T, V any](l []T, tell func(T) V) iter.Seq[V] {
	return func(yield func(V) bool) {
		for _, x := range l {
			if !yield(tell(x)) {
				return
			}
		}
	}
}

// balances goes through what accounts have.
func balances(l []api.Account) iter.Seq[uint64] {
	return each(l, func(a api.Account) uint64 { return a.Balance })
}

// folds goes through accounts by what tells them apart.
func folds(l []api.Account) iter.Seq[string] { return each(l, fold) }

// counter: which number the next entry to a shard has, and up to which one those from it have been credited.
type counter struct{ next, mark uint64 }

// counters goes through a book's numbers, shard by shard. (There must be as many marks as next numbers.)
func counters(b api.Book) iter.Seq2[int, counter] {
	return func(yield func(int, counter) bool) {
		for i, n := range b.Next {
			if !yield(i, counter{n, b.Marks[i]}) {
				return
			}
		}
	}
}

// backward goes through the numbers of a peer's entries, the last one first.
func backward(l []api.Entry, peer int) iter.Seq[uint64] {
	return func(yield func(uint64) bool) {
		for i := len(l) - 1; i >= 0; i-- {
			if l[i].Peer == peer && !yield(l[i].Number) {
				return
			}
		}
	}
}

// sum stays at the greatest number: one that wrapped round would seem to be small.
func sum(l iter.Seq[uint64]) uint64 {
	var out uint64
	for n := range l {
		out += min(n, math.MaxUint64-out)
	}
	return out
}
