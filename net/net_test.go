package net_test

import (
	"bytes"
	"math"
	"testing"

	"tally/api"
	"tally/net"
)

// The chapter's examples, one behind the other.
func TestExamples(t *testing.T) {
	n := open(t, 2)
	yes(t, "Send a", n.Send(1, []byte("a")))
	yes(t, "Send b", n.Send(2, []byte("b")))
	no(t, "Send c", n.Send(1, []byte("c")))
	f, ok := n.Look(1)
	flight(t, "Look(1)", f, ok, "2b")
	no(t, "Double(0)", n.Double(0))
	is(t, "behind Double", n, "1a 2b lost 1")
	f, ok = n.Take(0)
	flight(t, "Take(0)", f, ok, "1a")
	is(t, "behind Take", n, "2b lost 1")
	yes(t, "Double(0)", n.Double(0))
	f, ok = n.Look(1)
	flight(t, "Look(1)", f, ok, "2b")
	yes(t, "Drop(1)", n.Drop(1))
	no(t, "Drop(1)", n.Drop(1))
	f, ok = n.Take(-1)
	nothing(t, "Take(-1)", f, ok)
	is(t, "at last", n, "2b lost 1")
}

// P6.1: a room of 1 to MaxFlight; with another ErrNetRoom and nil.
func TestNew(t *testing.T) {
	for _, k := range []int{0, -1, math.MinInt, api.MaxFlight + 1, math.MaxInt} {
		if n, e := net.New(k); n != nil || e != api.ErrNetRoom {
			t.Errorf("New(%d): %v, %d, want nil and ErrNetRoom", k, n, e)
		}
	}
	for _, k := range []int{1, 2, api.MaxFlight} {
		is(t, "a new one", open(t, k), "lost 0")
	}
}

// P6.1, P6.2, P6.3: there is room for just so many; each message more is lost, and counted; a place that is free again is taken again.
func TestRoom(t *testing.T) {
	for _, k := range []int{1, 2, 3, api.MaxFlight} {
		n := open(t, k)
		for i := range k {
			if !n.Send(i, []byte("m")) || n.Len() != i+1 || n.Lost() != 0 {
				t.Fatalf("room %d, message %d: Len %d, Lost %d", k, i, n.Len(), n.Lost())
			}
		}
		for i := range 3 {
			if n.Send(i, []byte("more")) || n.Len() != k || n.Lost() != uint64(i+1) {
				t.Errorf("room %d, full: Len %d, Lost %d", k, n.Len(), n.Lost())
			}
		}
		yes(t, "Drop", n.Drop(k-1))
		yes(t, "Send", n.Send(7, []byte("last")))
		no(t, "Send", n.Send(8, []byte("later")))
		f, ok := n.Look(k - 1)
		flight(t, "the last one", f, ok, "7last")
		if n.Len() != k || n.Lost() != 4 {
			t.Errorf("room %d: Len %d, Lost %d", k, n.Len(), n.Lost())
		}
	}
}

// P6.2: to may be any number, b any bytes: none, all that a byte can be, more than a message may have.
func TestSendAnything(t *testing.T) {
	all := make([]byte, 256)
	for i := range all {
		all[i] = byte(i)
	}
	list := [][]byte{nil, {}, {0}, {0xff, 0xfe, 0x80}, all, make([]byte, 2*api.MaxMessage)}
	for _, to := range []int{0, 1, -1, api.MaxNodes, math.MaxInt, math.MinInt} {
		n := open(t, len(list))
		for i, b := range list {
			yes(t, "Send", n.Send(to, b))
			f, ok := n.Look(i)
			if !ok || f.To != to || !bytes.Equal(f.Bytes, b) {
				t.Errorf("Look(%d): %d, %.40x, %v, want %d, %.40x", i, f.To, f.Bytes, ok, to, b)
			}
		}
		for i, b := range list {
			f, ok := n.Take(0)
			if !ok || f.To != to || !bytes.Equal(f.Bytes, b) {
				t.Errorf("Take, message %d: %d, %.40x, %v, want %d, %.40x", i, f.To, f.Bytes, ok, to, b)
			}
		}
	}
}

// P6.3: what was taken out, dropped, or not doubled does not count as lost, and what was lost stays counted.
func TestLost(t *testing.T) {
	n := sent(t, 2, "a", "b")
	no(t, "Double", n.Double(0))
	n.Take(0)
	n.Drop(0)
	n.Drop(0)
	is(t, "emptied", n, "lost 0")
	n.Send(1, nil)
	n.Send(2, nil)
	n.Send(3, nil)
	n.Send(4, nil)
	n.Drop(0)
	n.Take(0)
	is(t, "emptied again", n, "lost 2")
}

// P6.4: Look changes nothing; Take tells what Look does, and it is out of the row; Drop takes it out too; the others stay in their order: at the first place, in the midst, at the last.
func TestPlaces(t *testing.T) {
	for i, want := range []string{"1b 2c 3d lost 0", "0a 2c 3d lost 0", "0a 1b 3d lost 0", "0a 1b 2c lost 0"} {
		message := []string{"0a", "1b", "2c", "3d"}[i]
		n := sent(t, 4, "a", "b", "c", "d")
		for range 2 {
			f, ok := n.Look(i)
			flight(t, "Look", f, ok, message)
			is(t, "behind Look", n, "0a 1b 2c 3d lost 0")
		}
		f, ok := n.Take(i)
		flight(t, "Take", f, ok, message)
		is(t, "behind Take", n, want)
		n = sent(t, 4, "a", "b", "c", "d")
		yes(t, "Drop", n.Drop(i))
		is(t, "behind Drop", n, want)
	}
}

// P6.4, P6.5: at a place that is none, nothing and false, and nothing has changed.
func TestNoPlace(t *testing.T) {
	for _, l := range [][]string{{}, {"a"}, {"a", "b", "c"}} {
		n := sent(t, 5, l...)
		was := state(n)
		for _, i := range []int{-1, len(l), len(l) + 1, 5, 6, math.MaxInt, math.MinInt} {
			f, ok := n.Look(i)
			nothing(t, "Look", f, ok)
			f, ok = n.Take(i)
			nothing(t, "Take", f, ok)
			no(t, "Drop", n.Drop(i))
			no(t, "Double", n.Double(i))
			is(t, "behind all", n, was)
		}
	}
}

// P6.5: a double stands at the end; a double of a double is one like any other; without room nothing changes and nothing is lost.
func TestDouble(t *testing.T) {
	n := sent(t, 5, "a", "b")
	yes(t, "Double(0)", n.Double(0))
	yes(t, "Double(1)", n.Double(1))
	yes(t, "Double(2)", n.Double(2))
	is(t, "doubled", n, "0a 1b 0a 1b 0a lost 0")
	for i := range 5 {
		no(t, "Double", n.Double(i))
	}
	is(t, "full", n, "0a 1b 0a 1b 0a lost 0")
	yes(t, "Drop(0)", n.Drop(0))
	is(t, "the first dropped", n, "1b 0a 1b 0a lost 0")
	yes(t, "Double(1)", n.Double(1))
	is(t, "doubled again", n, "1b 0a 1b 0a 0a lost 0")
}
