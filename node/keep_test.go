package node_test

import (
	"fmt"
	"testing"

	"tally/api"
	"tally/disk"
	"tally/node"
)

// Example 4, P16.2, P16.3: a refuse at first, a promise behind FirstPatience ticks.
func TestExamplePromise(t *testing.T) {
	c, d := conf(), empty(t)
	n := start(t, c, 1, d)
	hears(t, "kept out", n, prepare(0, 1, 0, 7), refuse(1, 0, 0, 7, 0))
	lapse(t, n, api.FirstPatience-1)
	// That prepare has made it wait as long as it keeps others out: it begins an epoch itself.
	ticks(t, "its own", n, prepare(1, 0, 0, 8), prepare(1, 2, 0, 8))
	was := stored(8, 0, 0, firstValue(c, 0))
	keeps(t, "its own", n, c, 1, d, 0, was)
	hears(t, "a promise", n, prepare(0, 1, 0, 700), promise(1, 0, 0, 700, was))
	was.Promised = 700
	keeps(t, "a promise", n, c, 1, d, 0, was)
}

// P16.2: what a copy has to keep is kept as soon as it has changed, as a part of its own; else nothing is.
func TestKeptAtOnce(t *testing.T) {
	c, d := conf(), empty(t)
	n := start(t, c, 1, d)
	lapse(t, n, 4)
	first := stored(0, 0, 0, firstValue(c, 1))
	at700 := stored(700, 0, 0, firstValue(c, 1))
	many := 1
	for _, e := range []struct {
		what   string
		hear   api.Msg
		tell   []api.Msg
		change bool
		has    api.Stored
	}{
		{"a promise", prepare(0, 1, 1, 700), []api.Msg{promise(1, 0, 1, 700, first)}, true, at700},
		{"again", prepare(0, 1, 1, 700), []api.Msg{promise(1, 0, 1, 700, first)}, false, at700},
		{"a lesser one", prepare(2, 1, 1, 699), []api.Msg{refuse(1, 2, 1, 699, 700)}, false, at700},
		{"a write", write(0, 1, 1, 700, 1, "w", 5), []api.Msg{wrote(1, 0, 1, 700, 1)}, true, stored(700, 700, 1, "w")},
		{"again", write(0, 1, 1, 700, 1, "x", 5), []api.Msg{wrote(1, 0, 1, 700, 1)}, false, stored(700, 700, 1, "w")},
		{"kept out", prepare(2, 1, 1, 701), []api.Msg{refuse(1, 2, 1, 701, 700)}, false, stored(700, 700, 1, "w")},
		{"the next write", write(0, 1, 1, 700, 2, "x", 5), []api.Msg{wrote(1, 0, 1, 700, 2)}, true, stored(700, 700, 2, "x")},
		{"a late one", write(0, 1, 1, 700, 1, "w", 5), nil, false, stored(700, 700, 2, "x")},
		{"a beat", beat(0, 1, 1, 700, 4, 5), []api.Msg{beaten(1, 0, 1, 700, 4)}, false, stored(700, 700, 2, "x")},
		{"a beat of a greater epoch", beat(2, 1, 1, 703, 1, 5), []api.Msg{beaten(1, 2, 1, 703, 1)}, true, stored(703, 700, 2, "x")},
		{"a beat of a lesser one", beat(0, 1, 1, 700, 5, 5), []api.Msg{refuse(1, 0, 1, 700, 703)}, false, stored(703, 700, 2, "x")},
		{"a write of a greater one", write(0, 1, 1, 706, 1, "", 5), []api.Msg{wrote(1, 0, 1, 706, 1)}, true, stored(706, 706, 1, "")},
		{"a write of a lesser one", write(2, 1, 1, 703, 9, "", 5), []api.Msg{refuse(1, 2, 1, 703, 706)}, false, stored(706, 706, 1, "")},
	} {
		strokes := d.Strokes()
		hears(t, e.what, n, e.hear, e.tell...)
		keeps(t, e.what, n, c, 1, d, 1, e.has)
		keeps(t, e.what, n, c, 1, d, 0, stored(0, 0, 0, firstValue(c, 0)))
		if !e.change {
			if d.Strokes() != strokes {
				t.Fatalf("%s: %d strokes", e.what, d.Strokes()-strokes)
			}
			continue
		}
		many++
		if got, l := last(t, d); l != many || got != row(copyPart(1, e.has)) || d.Strokes() != strokes+2 {
			t.Fatalf("%s: %d transactions, %d strokes, %s", e.what, l, d.Strokes()-strokes, got)
		}
	}
}

// P16.2: a journal of 64 transactions gives way to one, with the life and all copies, by shard, in a part each; and so on.
func TestCheckpoint(t *testing.T) {
	c, d := conf(), empty(t)
	n := start(t, c, 1, d)
	start(t, c, 1, d)
	n = start(t, c, 1, d)
	lapse(t, n, 4)
	has := []api.Stored{stored(0, 0, 0, firstValue(c, 0)), stored(0, 0, 0, firstValue(c, 1))}
	many := 3
	for seq := uint64(1); seq < 150; seq++ {
		s := int(seq % 3 / 2)
		strokes := d.Strokes()
		value := fmt.Sprint("v", seq)
		hears(t, "a write", n, write(0, 1, s, 700, seq, value, 5), wrote(1, 0, s, 700, seq))
		has[s] = stored(700, 700, seq, value)
		want, did := row(copyPart(s, has[s])), 2
		if many++; many > 64 {
			many, want, did = 1, row(lifePart(3), copyPart(0, has[0]), copyPart(1, has[1])), 4
		}
		if got, l := last(t, d); l != many || got != want || d.Strokes() != strokes+did {
			t.Fatalf("%d: %d transactions, %d strokes, %s", seq, l, d.Strokes()-strokes, got)
		}
		for s, x := range has {
			keeps(t, "a write", n, c, 1, d, s, x)
		}
	}
	if n := start(t, c, 1, d); n.Life() != 4 {
		t.Errorf("life %d", n.Life())
	}
}

// P16.1: the life too is kept in a checkpoint, if there are 64 transactions or more.
func TestLifeInACheckpoint(t *testing.T) {
	c := conf()
	for _, many := range []int{62, 63, 64, 65, 200} {
		var rows [][][]byte
		for i := range many - 1 {
			rows = append(rows, [][]byte{lifePart(uint64(1 + i))})
		}
		x := stored(9, 8, 7, "v")
		d := laid(t, append(rows, [][]byte{copyPart(0, x)})...)
		want, l := row(lifePart(uint64(many))), many+1
		if many >= 64 {
			want, l = row(lifePart(uint64(many)), copyPart(0, x), copyPart(1, stored(0, 0, 0, firstValue(c, 1)))), 1
		}
		n := start(t, c, 1, d)
		if got, is := last(t, d); is != l || got != want || n.Life() != uint64(many) {
			t.Errorf("%d: life %d, %d transactions, %s", many, n.Life(), is, got)
		}
		keeps(t, "a checkpoint", n, c, 1, d, 0, x)
	}
}

// P16.2: a checkpoint has the node's own copies alone; of a node without any, its life.
func TestCheckpointOfItsCopies(t *testing.T) {
	c := conf()
	c.Nodes, c.Copies = 5, 1
	for me := range 5 {
		d := empty(t)
		var want [][]byte
		for s := range c.Shards {
			if copiesOf(t, c, s)[0] == me {
				want = append(want, copyPart(s, stored(0, 0, 0, firstValue(c, s))))
			}
		}
		for life := uint64(1); life < 131; life++ {
			n := start(t, c, me, d)
			_, many := last(t, d)
			if n.Life() != life || many != int((life-1)%64+1) {
				t.Fatalf("life %d, %d transactions", n.Life(), many)
			}
			if life == 65 || life == 129 {
				if got, _ := last(t, d); got != row(append([][]byte{lifePart(life)}, want...)...) {
					t.Fatalf("life %d: %s", life, got)
				}
			}
		}
	}
}

// goesDown lets a node hear, or tick, where that can't be kept.
func goesDown(t *testing.T, what string, n *node.Node, hear []byte) {
	t.Helper()
	life := n.Life()
	if hear == nil {
		if l, e := n.Tick(); len(l) != 0 || e != api.ErrNodeDown {
			t.Fatalf("%s: Tick: %v, %d", what, l, e)
		}
	} else if l, done, e := n.Hear(hear); len(l) != 0 || len(done) != 0 || e != api.ErrNodeDown {
		t.Fatalf("%s: Hear: %v, %v, %d", what, l, done, e)
	}
	isDown(t, what, n, life)
}

// refusing are calls that have something to keep, of node 1 behind 5 ticks: bytes to hear, or none: a tick.
func refusing(t *testing.T) map[string][]byte {
	return map[string][]byte{
		"a promise": say(t, prepare(0, 1, 0, 7)),
		"a write":   say(t, write(0, 1, 1, 7, 1, "v", 3)),
		"a beat":    say(t, beat(0, 1, 1, 7, 1, 3)),
		"its own":   nil,
	}
}

// P16.2: a disk that is full for once puts the node down for good, though there is room again; a new start finds what was kept.
func TestDownWhenFull(t *testing.T) {
	c := conf()
	for what, b := range refusing(t) {
		d := empty(t)
		n := start(t, c, 1, d)
		lapse(t, n, 5)
		if id, _, e := n.Call(balance("al")); id != 1 || e != api.OK {
			t.Fatal("Call")
		}
		d.Plan(api.Plan{FullFrom: 1, FullTo: 1})
		goesDown(t, what, n, b)
		d.Plan(api.Plan{})
		isDown(t, what, n, 1)
		if got, many := last(t, d); many != 1 || got != row(lifePart(1)) {
			t.Fatalf("%s: %d transactions, %s", what, many, got)
		}
		n = start(t, c, 1, d)
		if n.Life() != 2 {
			t.Fatalf("%s: life %d", what, n.Life())
		}
		for s := range 2 {
			keeps(t, what, n, c, 1, d, s, stored(0, 0, 0, firstValue(c, s)))
		}
	}
}

// P16.2: of a tick that begins two epochs nothing is told, if the second can't be kept; the first stands on the disk.
func TestDownInTheMidst(t *testing.T) {
	c, d := conf(), empty(t)
	n := start(t, c, 1, d)
	lapse(t, n, 5)
	d.Plan(api.Plan{FullFrom: 3, FullTo: 3})
	goesDown(t, "the second", n, nil)
	if x, ok := node.Kept(c, 1, d, 0); !ok || !same(x, stored(2, 0, 0, firstValue(c, 0))) {
		t.Errorf("shard 0: %v", x)
	}
	if x, ok := node.Kept(c, 1, d, 1); !ok || !same(x, stored(0, 0, 0, firstValue(c, 1))) {
		t.Errorf("shard 1: %v", x)
	}
}

// Example 5, P16.2, P16.9: the power goes off where it is kept.
func TestDownWhenOff(t *testing.T) {
	c := conf()
	for what, b := range refusing(t) {
		for off := 1; off <= 2; off++ {
			d := empty(t)
			n := start(t, c, 1, d)
			lapse(t, n, 5)
			d.Plan(api.Plan{Off: off})
			goesDown(t, what, n, b)
			found := map[uint64]bool{}
			for picked := range 120 {
				left := load(t, d.Crash([]int{0, picked}))
				n := start(t, c, 1, left)
				for s := range 2 {
					x, ok := n.Stored(s)
					want := []api.Stored{stored(0, 0, 0, firstValue(c, s)), stored(7, 0, 0, firstValue(c, s)), stored(7, 7, 1, "v"), stored(2, 0, 0, firstValue(c, s))}
					if !ok || !same(x, want[0]) && !same(x, want[1]) && !same(x, want[2]) && !same(x, want[3]) {
						t.Fatalf("%s: shard %d: %v", what, s, x)
					}
					found[x.Promised] = true
				}
				if n.Life() != 2 {
					t.Fatalf("%s: life %d", what, n.Life())
				}
			}
			if len(found) != 2 {
				t.Errorf("%s, stroke %d: only %v", what, off, found)
			}
		}
	}
}

// P16.2: so does each stroke of a checkpoint.
func TestDownAtACheckpoint(t *testing.T) {
	c := conf()
	for stroke := 1; stroke <= 5; stroke++ {
		for _, p := range []api.Plan{{Off: stroke}, {FullFrom: stroke, FullTo: stroke}} {
			d := laid(t, [][]byte{lifePart(1)}, [][]byte{lifePart(2)})
			n := start(t, c, 1, d)
			lapse(t, n, 4)
			for seq := uint64(1); seq <= 61; seq++ {
				hears(t, "a write", n, write(0, 1, 0, 7, seq, "v", 5), wrote(1, 0, 0, 7, seq))
			}
			d.Plan(p)
			if b := write(0, 1, 0, 7, 62, "w", 5); p.Off > 4 || p.FullFrom > 1 {
				hears(t, "in time", n, b, wrote(1, 0, 0, 7, 62))
			} else {
				goesDown(t, "a checkpoint", n, say(t, b))
			}
		}
	}
}

// P16.2, R5: a journal whose numbers are at their end puts the node down, too; and a start is refused by it.
func TestJournalAtItsEnd(t *testing.T) {
	c := conf()
	numbered := func(number uint64) *disk.Disk {
		return load(t, []api.FileBytes{{Name: "node", Data: record(number, lifePart(3))}})
	}
	refused(t, "at its end", c, 1, numbered(api.MaxNumber), api.ErrJournalLong)
	d := numbered(api.MaxNumber - 1)
	n := start(t, c, 1, d)
	lapse(t, n, 4)
	goesDown(t, "at its end", n, say(t, prepare(0, 1, 0, 7)))
	if x, ok := node.Kept(c, 1, d, 0); !ok || x.Promised != 0 {
		t.Errorf("Kept: %v", x)
	}
	refused(t, "at its end", c, 1, d, api.ErrJournalLong)
}

// P16.2: what has nothing to keep goes on with the power off, and with a full disk; the first thing that has puts it down.
func TestNothingToKeep(t *testing.T) {
	c := conf()
	for i := range 2 {
		d := empty(t)
		n := start(t, c, 1, d)
		hears(t, "a write", n, write(0, 1, 0, 7, 1, "v", 9), wrote(1, 0, 0, 7, 1))
		if i == 0 {
			off(t, d)
		} else {
			full(t, d)
		}
		lapse(t, n, 2)
		hears(t, "again", n, write(0, 1, 0, 7, 1, "v", 9), wrote(1, 0, 0, 7, 1))
		hears(t, "kept out", n, prepare(2, 1, 0, 8), refuse(1, 2, 0, 8, 7))
		hears(t, "a beat", n, beat(0, 1, 0, 7, 1, 9), beaten(1, 0, 0, 7, 1))
		if id, l, e := n.Call(balance("al")); id != 1 || len(l) != 1 || e != api.OK {
			t.Errorf("Call: %d, %d", id, e)
		}
		if x, ok := n.Stored(0); !ok || !same(x, stored(7, 7, 1, "v")) {
			t.Errorf("Stored: %v", x)
		}
		goesDown(t, "the next write", n, say(t, write(0, 1, 0, 7, 2, "v", 9)))
	}
}
