package shard

import "tally/api"

// copied makes a book that has no list in common with another one.
func copied(b api.Book) api.Book {
	b.Accounts = copyOf(b.Accounts)
	b.Queue = copyOf(b.Queue)
	b.Next = copyOf(b.Next)
	b.Marks = copyOf(b.Marks)
	b.Slots = copyOf(b.Slots)
	return b
}

func copyOf[T any](l []T) []T {
	out := make([]T, len(l))
	copy(out, l)
	return out
}

// those copies the ones that fit.
func those[T any](l []T, fits func(T) bool) []T {
	var out []T
	for _, x := range l {
		if fits(x) {
			out = append(out, x)
		}
	}
	return out
}

// place tells where the first one stands that fits; -1, if there is none.
func place[T any](l []T, fits func(T) bool) int {
	for i, x := range l {
		if fits(x) {
			return i
		}
	}
	return -1
}

func count[T any](l []T, fits func(T) bool) int {
	n := 0
	for _, x := range l {
		if fits(x) {
			n++
		}
	}
	return n
}

func all[T any](l []T, fits func(T) bool) bool { return count(l, fits) == len(l) }
