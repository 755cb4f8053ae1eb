package settle

import (
	"tally/api"
	"tally/pace"
	"tally/plane"
)

// road is how the settles of a peer go: when, and to which of its copies.
type road struct {
	pace   *pace.Pace
	copies []int
	turn   int // the place among the copies of the one that is next
}

// roadsOf tells to how many shards there are roads: with numbers that node.Start does not take there may be no pace and no copies, so to none.
func roadsOf(c api.Config) int {
	_, noPace := pace.New(c.Cap)
	_, noCopies := plane.Copies(0, c.Nodes, c.Copies)
	if noPace != api.OK || noCopies != api.OK {
		return 0
	}
	return min(max(c.Shards, 0), api.MaxShards)
}

func newRoad(c api.Config, peer int) *road {
	p, _ := pace.New(c.Cap)
	copies, _ := plane.Copies(peer, c.Nodes, c.Copies)
	return &road{pace: p, copies: copies}
}

// next tells the copy whose turn it is; then it is the next one's.
func (r *road) next() int {
	to := r.copies[r.turn]
	r.turn = (r.turn + 1) % len(r.copies)
	return to
}
