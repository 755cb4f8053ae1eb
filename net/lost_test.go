package net

import (
	"math"
	"testing"

	"tally/api"
)

// P6.3: Lost stays at its greatest. (Within the package: nobody can wait for so many.)
func TestLostStays(t *testing.T) {
	n, e := New(1)
	if e != api.OK || !n.Send(0, nil) {
		t.Fatal(e)
	}
	n.lost = math.MaxUint64 - 1
	for range 3 {
		if n.Send(0, nil) || n.Lost() != math.MaxUint64 {
			t.Errorf("Lost %d", n.Lost())
		}
	}
}
