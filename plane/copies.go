package plane

import (
	"cmp"
	"slices"

	"tally/api"
)

// Copies tells the nodes that keep a shard, the nearest first.
func Copies(shard, nodes, copies int) ([]int, api.Errno) {
	if !mayBe(shard, nodes, copies) {
		return nil, api.ErrPlane
	}
	near := byNearness(squares(shard, nodes))
	return slices.Clone(near[:copies]), api.OK
}

func mayBe(shard, nodes, copies int) bool {
	switch {
	case nodes < 1, nodes > api.MaxNodes:
		return false
	case copies < 1, copies > api.MaxCopies, copies%2 == 0, copies > nodes:
		return false
	}
	return shard >= 0 && shard < api.MaxShards
}

// squares tells for each node the square of how far it stands from a shard.
func squares(shard, nodes int) []int {
	at := Turn(Spiral(shard+1), 1)
	apart := make([]int, nodes)
	for k := range apart {
		apart[k] = Apart(Spiral(k), at)
	}
	return apart
}

// byNearness tells all nodes, the nearest first, of two that are equally near the lesser number.
func byNearness(apart []int) []int {
	nodes := make([]int, len(apart))
	for k := range nodes {
		nodes[k] = k
	}
	slices.SortFunc(nodes, func(a, b int) int {
		return cmp.Or(cmp.Compare(apart[a], apart[b]), cmp.Compare(a, b))
	})
	return nodes
}
