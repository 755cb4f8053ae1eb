package settle

import "tally/api"

// due is what of a book's queue goes to one peer.
type due struct {
	first api.Entry
	least uint64 // of all their numbers: any book may be shown, also one whose numbers do not rise
}

// dueOf finds a peer's; none, if the queue has nothing for it.
func dueOf(queue []api.Entry, peer int) *due {
	var d *due
	for _, e := range queue {
		if e.Peer != peer {
			continue
		}
		if d == nil {
			d = &due{first: e, least: e.Number}
		}
		d.least = min(d.least, e.Number)
	}
	return d
}

// begins tells whether a first entry is there that was not the first one when the peer had what it had.
func (d *due) begins(was *due) bool {
	return d != nil && (was == nil || was.first.Number != d.first.Number)
}
