package settle

// row is one thing of a kind for each peer, by the peer's number.
type row[T any] []T

// fill makes a row for so many shards; the own one is no peer: it has nothing.
func fill[T any](shards, own int, one func(peer int) T) row[T] {
	r := make(row[T], shards)
	for peer := range shards {
		if peer != own {
			r[peer] = one(peer)
		}
	}
	return r
}

// at tells what a peer has; nothing (the zero value), if it is no peer.
func (r row[T]) at(peer int) T {
	if peer < 0 || peer >= len(r) {
		var nothing T
		return nothing
	}
	return r[peer]
}
