package lease

import "math"

// counts are the numbers of a lease that go with the ticks.
type counts struct {
	left         int // for how many it waits while it stands by
	since, quiet int // how many since a round began, and since the last one that is done began
}

// goOn lets a tick go by for the rounds. (What is left goes down only while the node stands by.)
func (c *counts) goOn() {
	c.since = sum(c.since, 1)
	c.quiet = sum(c.quiet, 1)
}

// sum stays at the greatest int: a count that wrapped round would seem to be young again. None of the two is below 0.
func sum(a, b int) int {
	if a > math.MaxInt-b {
		return math.MaxInt
	}
	return a + b
}
