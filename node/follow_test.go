package node_test

import (
	"testing"

	"tally/api"
	"tally/disk"
	"tally/node"
)

// leftovers calls with what may be left of a disk: each number of name changes, of the first file's units (some of them), and of the second's.
func leftovers(t *testing.T, d *disk.Disk, look func(left *disk.Disk)) {
	t.Helper()
	for names := range 4 {
		for first := range 50 {
			for _, second := range []int{0, 1, 30, -1} {
				look(load(t, d.Crash([]int{names, 7*first - 1, second})))
			}
		}
	}
}

// rowsUpTo are transactions of so many lives.
func rowsUpTo(lives int) [][][]byte {
	var l [][][]byte
	for i := range lives {
		l = append(l, [][]byte{lifePart(uint64(i + 1))})
	}
	return l
}

// P16.9: the power goes off in a start, at any stroke: the next life is one greater, or two, if that one was kept.
func TestLifeStands(t *testing.T) {
	c := conf()
	for _, lives := range []int{0, 1, 63, 64} {
		for off := 1; off <= 4; off++ {
			d := laid(t, rowsUpTo(lives)...)
			d = load(t, d.Crash([]int{-1, -1})) // all of it safe
			d.Plan(api.Plan{Off: off})
			n, e := node.Start(c, 1, d)
			if e == api.OK && n.Life() == uint64(lives+1) && (lives < 64 && off > 3 || lives > 64) {
				continue
			}
			if n != nil || e != api.ErrDiskOff {
				t.Fatalf("%d lives, off %d: %d", lives, off, e)
			}
			found := map[uint64]bool{}
			leftovers(t, d, func(left *disk.Disk) {
				n := start(t, c, 1, left)
				found[n.Life()-uint64(lives)] = true
				for s := range 2 {
					keeps(t, "behind a start", n, c, 1, left, s, stored(0, 0, 0, firstValue(c, s)))
				}
			})
			for more := range found {
				if more != 1 && more != 2 {
					t.Errorf("%d lives, off %d: %d more", lives, off, more)
				}
			}
			if lives < 64 && off < 3 && len(found) != 2 {
				t.Errorf("%d lives, off %d: only %v", lives, off, found)
			}
		}
	}
}

// P16.9: the power goes off at any stroke of a checkpoint: the copy that changed has what it had or what it was changed to, the other one what it had; the life stands.
func TestCheckpointStands(t *testing.T) {
	c := conf()
	for off := 1; off <= 4; off++ {
		d := laid(t, rowsUpTo(61)...)
		n := start(t, c, 1, d)
		hears(t, "a write", n, write(0, 1, 1, 7, 1, "other", 5), wrote(1, 0, 1, 7, 1))
		hears(t, "a write", n, write(0, 1, 0, 7, 1, "v", 5), wrote(1, 0, 0, 7, 1))
		d.Plan(api.Plan{Off: off})
		goesDown(t, "a checkpoint", n, say(t, write(0, 1, 0, 8, 1, "w", 5)))
		found := map[uint64]bool{}
		leftovers(t, d, func(left *disk.Disk) {
			n := start(t, c, 1, left)
			if n.Life() != 63 {
				t.Fatalf("off %d: life %d", off, n.Life())
			}
			x, _ := n.Stored(0)
			if !same(x, stored(7, 7, 1, "v")) && !same(x, stored(8, 8, 1, "w")) {
				t.Fatalf("off %d: %v", off, x)
			}
			found[x.Promised] = true
			keeps(t, "the other one", n, c, 1, left, 1, stored(7, 7, 1, "other"))
		})
		if !found[7] || off == 4 && !found[8] {
			t.Errorf("off %d: only %v", off, found)
		}
	}
}

// P16.9: a promise, a wrote, a beaten and an epoch of its own, once told, stand behind any crash of what is not safe.
func TestToldStands(t *testing.T) {
	c := conf()
	v := firstValue(c, 0)
	for _, e := range []struct {
		hear []byte // none: six ticks, with which it begins epoch 2
		has  api.Stored
	}{
		{say(t, prepare(0, 1, 0, 9)), stored(9, 0, 0, v)},
		{say(t, write(0, 1, 0, 9, 3, "w", 5)), stored(9, 9, 3, "w")},
		{say(t, beat(0, 1, 0, 9, 3, 5)), stored(9, 0, 0, v)},
		{nil, stored(2, 0, 0, v)},
	} {
		d := empty(t)
		n := start(t, c, 1, d)
		lapse(t, n, 5)
		var l []api.Flight
		if e.hear == nil {
			l, _ = n.Tick()
		} else {
			l, _, _ = n.Hear(e.hear)
		}
		if len(l) == 0 {
			t.Fatal("nothing is told")
		}
		leftovers(t, d, func(left *disk.Disk) {
			n := start(t, c, 1, left)
			keeps(t, "told", n, c, 1, left, 0, e.has)
			if n.Life() != 2 {
				t.Fatalf("life %d", n.Life())
			}
		})
	}
}
