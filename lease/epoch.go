package lease

import "tally/api"

// begin takes the next epoch for its own, and has more patience from then on; at the end of the epochs it waits anew.
func (l *Lease) begin() uint64 {
	epoch, there := l.next()
	if there {
		l.seen = epoch
		l.patience = l.doubled()
	}
	l.Rest()
	return epoch
}

// next tells the least epoch of its own above all that it has seen; not there: it would be above MaxNumber.
func (l *Lease) next() (epoch uint64, there bool) {
	// Asked first, for what has been seen may be so great that nothing can be added to it.
	if l.seen >= api.MaxNumber {
		return 0, false
	}
	epoch = l.seen - l.seen%l.copies + l.place
	if epoch <= l.seen {
		epoch += l.copies
	}
	if epoch > api.MaxNumber {
		return 0, false
	}
	return epoch, true
}

// doubled asks ahead of doubling, so that no sum leaves its type.
func (l *Lease) doubled() int {
	if l.patience > l.most/2 {
		return l.most
	}
	return 2 * l.patience
}

// modulo counts from 0 on, below 0 too: -1 of 3 is 2.
func modulo(n, of int) int {
	n %= of
	if n < 0 {
		n += of
	}
	return n
}
