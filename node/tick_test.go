package node_test

import (
	"testing"

	"tally/api"
)

// P16.4: the copies tick first, then the writers, shard by shard, each epoch kept ahead of its prepares, and at last the gate.
func TestTickOrder(t *testing.T) {
	c, d := conf(), empty(t)
	n := start(t, c, 0, d)
	zoe, al := balance("zoe"), balance("al")
	if _, l, e := n.Call(zoe); len(l) != 1 || e != api.OK {
		t.Fatal("Call")
	}
	ticks(t, "1", n, ask(0, 2, 1, 1, 1, zoe))
	ticks(t, "2", n, ask(0, 1, 1, 1, 1, zoe))
	if _, l, e := n.Call(al); len(l) != 1 || e != api.OK {
		t.Fatal("Call")
	}
	ticks(t, "3", n, ask(0, 2, 0, 1, 2, al))
	// At the fourth tick the copies keep nobody out any more, and place 0 has no patience left: both in the same tick.
	ticks(t, "4", n, prepare(0, 2, 0, 3), prepare(0, 1, 0, 3), prepare(0, 2, 1, 3), prepare(0, 1, 1, 3), ask(0, 0, 1, 1, 1, zoe), ask(0, 1, 0, 1, 2, al))
	for s := range 2 {
		role(t, "4", n, s, api.PhasePreparing, false, 3)
		keeps(t, "4", n, c, 0, d, s, stored(3, 0, 0, firstValue(c, s)))
	}
	if got := all(t, d); len(got) != 3 || row(got[1]...) != row(copyPart(0, stored(3, 0, 0, firstValue(c, 0)))) || row(got[2]...) != row(copyPart(1, stored(3, 0, 0, firstValue(c, 1)))) {
		t.Errorf("the journal: %x", got)
	}
	// What is begun is asked again, and kept no more.
	strokes := d.Strokes()
	ticks(t, "5", n, prepare(0, 2, 0, 3), prepare(0, 1, 0, 3), prepare(0, 2, 1, 3), prepare(0, 1, 1, 3))
	if d.Strokes() != strokes {
		t.Errorf("%d strokes", d.Strokes()-strokes)
	}
}

// P16.4: who has patience left, or whose copy keeps others out, begins no epoch; each shard for itself.
func TestFree(t *testing.T) {
	c, d := conf(), empty(t)
	n := start(t, c, 0, d)
	lapse(t, n, 3)
	hears(t, "a write from itself", n, write(0, 0, 0, 1, 1, "v", 4), wrote(0, 0, 0, 1, 1))
	// That has kept others out of shard 0 for three ticks longer, but the writer's patience goes on.
	ticks(t, "shard 1", n, prepare(0, 2, 1, 3), prepare(0, 1, 1, 3))
	ticks(t, "again", n, prepare(0, 2, 1, 3), prepare(0, 1, 1, 3))
	ticks(t, "again", n, prepare(0, 2, 1, 3), prepare(0, 1, 1, 3))
	role(t, "shard 0", n, 0, api.PhaseIdle, false, 0)
	ticks(t, "both", n, prepare(0, 2, 0, 3), prepare(0, 1, 0, 3), prepare(0, 2, 1, 3), prepare(0, 1, 1, 3))
	keeps(t, "both", n, c, 0, d, 0, stored(3, 1, 1, "v"))
}

// P16.4: an epoch that the copy refuses as its own is not begun, and nothing is kept; the next one is above it some time.
func TestOwnRefused(t *testing.T) {
	c, d := single(), empty(t)
	n := start(t, c, 0, d)
	lapse(t, n, 3)
	// The writer does not look at what its own node writes: it has not seen that epoch.
	hears(t, "a write from itself", n, write(0, 0, 0, 4, 1, "v", 0), wrote(0, 0, 0, 4, 1))
	strokes := d.Strokes()
	ticks(t, "3 is below 4", n)
	role(t, "3 is below 4", n, 0, api.PhaseIdle, false, 0)
	keeps(t, "3 is below 4", n, c, 0, d, 0, stored(4, 4, 1, "v"))
	if d.Strokes() != strokes {
		t.Errorf("%d strokes", d.Strokes()-strokes)
	}
	lapse(t, n, 7)
	ticks(t, "6", n, prepare(0, 2, 0, 6), prepare(0, 1, 0, 6))
	role(t, "6", n, 0, api.PhasePreparing, false, 6)
	keeps(t, "6", n, c, 0, d, 0, stored(6, 4, 1, "v"))
}

// P16.4: an epoch begins over what the copy keeps then: of a majority of one it is written again.
func TestBegunOverWhatIsKept(t *testing.T) {
	c := conf()
	c.Nodes, c.Copies = 1, 1
	d := laid(t, [][]byte{copyPart(0, stored(9, 8, 7, "v")), copyPart(1, stored(3, 0, 0, ""))})
	n := start(t, c, 0, d)
	lapse(t, n, 3)
	ticks(t, "both", n, write(0, 0, 0, 10, 1, "v", 9), write(0, 0, 1, 4, 1, "", 9))
	keeps(t, "both", n, c, 0, d, 0, stored(10, 8, 7, "v"))
	keeps(t, "both", n, c, 0, d, 1, stored(4, 0, 0, ""))
}

// P16.4: at the end of the epochs a node does not run any more.
func TestLastEpoch(t *testing.T) {
	c := conf()
	c.Nodes, c.Copies = 1, 1
	d := laid(t, [][]byte{copyPart(0, stored(api.MaxNumber, 8, 7, "v")), copyPart(1, stored(api.MaxNumber-1, 0, 0, "w"))})
	n := start(t, c, 0, d)
	lapse(t, n, 3)
	ticks(t, "the last epoch", n, write(0, 0, 1, api.MaxNumber, 1, "w", 9))
	for range 2000 {
		ticks(t, "no more", n, write(0, 0, 1, api.MaxNumber, 1, "w", 9))
	}
	role(t, "no more", n, 0, api.PhaseIdle, false, 0)
	role(t, "no more", n, 1, api.PhaseWriting, false, api.MaxNumber)
}

// P16.4, P16.10: of a node that has all shards and all calls the flights of a tick are those of DOC.md's limits at most.
func TestTickOfAll(t *testing.T) {
	c := conf()
	c.Nodes, c.Copies, c.Shards = 7, 7, 8
	for me := range 7 {
		n := start(t, c, me, empty(t))
		for range api.MaxCalls {
			if _, l, e := n.Call(balance("al")); len(l) != 1 || e != api.OK {
				t.Fatal("Call")
			}
		}
		most := 0
		for range 40 {
			most = max(most, len(tickWithin(t, n, c, 8)))
		}
		if most < 8*6 {
			t.Errorf("only %d flights", most)
		}
	}
}
