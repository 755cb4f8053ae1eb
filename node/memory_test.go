package node_test

import (
	"bytes"
	"fmt"
	"slices"
	"testing"

	"tally/api"
	"tally/node"
)

// P16.8, R2: what is handed in is neither changed nor kept, the room behind its end too.
func TestHandedIn(t *testing.T) {
	c := single()
	list := append(slices.Clone(c.Accounts), api.Account{Name: "more", Balance: 3})
	was := slices.Clone(list)
	c.Accounts = list[:3]
	d := empty(t)
	n := start(t, c, 1, d)
	if _, ok := node.Kept(c, 1, d, 0); !ok {
		t.Fatal("Kept")
	}
	if !slices.Equal(list, was) {
		t.Fatalf("%v", list)
	}
	value := firstValue(c, 0)
	clear(list)
	c.Clients, c.Copies, c.Shards, c.Cap = 0, 0, 0, 0
	b := append(say(t, write(0, 1, 0, 7, 1, "spelled", 5)), "spare"...)
	whole := bytes.Clone(b)
	l, _, e := n.Hear(b[:len(b)-5])
	if e != api.OK || !bytes.Equal(b, whole) {
		t.Fatalf("Hear: %d, %q", e, b)
	}
	clear(b)
	are(t, "a write", l, wrote(1, 0, 0, 7, 1))
	keeps(t, "a write", n, single(), 1, d, 0, stored(7, 7, 1, "spelled"))
	n = start(t, single(), 1, empty(t))
	if x, _ := n.Stored(0); string(x.Value) != value {
		t.Errorf("Stored: %q", x.Value)
	}
	// What the accounts were when it started counts, also when it holds.
	c = single()
	n = holds(t, c)
	clear(c.Accounts)
	hears(t, "a balance", n, ask(2, 1, 0, 5, 6, balance("al")))
	if l, _ := n.Tick(); len(l) != 3 {
		t.Fatalf("%v", l)
	}
	hears(t, "a beaten", n, beaten(0, 1, 0, 2, 1))
	hears(t, "a beaten", n, beaten(2, 1, 0, 2, 1), answer(1, 2, 0, 5, 6, 100))
}

// P16.8, R2: what is answered is new memory, the room behind its end too.
func TestToldIsNew(t *testing.T) {
	c, d := single(), empty(t)
	n := start(t, c, 1, d)
	want := stored(0, 0, 0, firstValue(c, 0))
	for range 2 {
		for _, f := range []func() (api.Stored, bool){func() (api.Stored, bool) { return n.Stored(0) }, func() (api.Stored, bool) { return node.Kept(c, 1, d, 0) }} {
			x, _ := f()
			y, _ := f()
			clear(x.Value[:cap(x.Value)])
			if !same(y, want) {
				t.Fatalf("%v", y)
			}
			keeps(t, "spoilt", n, c, 1, d, 0, want)
		}
	}
	lapse(t, n, 4)
	p := say(t, prepare(0, 1, 0, 9))
	l, _, _ := n.Hear(p)
	m, _, _ := n.Hear(p)
	spoil(l)
	are(t, "a promise", m, promise(1, 0, 0, 9, want))
	spoil(m)
	hears(t, "again", n, prepare(0, 1, 0, 9), promise(1, 0, 0, 9, want))

	n = holds(t, c)
	for range 3 {
		l, _ := n.Tick()
		was := spell(t, l)
		for i := range l {
			spoilBytes(l[i].Bytes)
			if again := spell(t, l[i+1:]); again != tail(was, i+1) {
				t.Fatalf("%s, was %s", again, was)
			}
		}
		spoil(l)
	}
	_, l, _ = n.Call(balance("al"))
	spoil(l)
	_, m, _ = n.Call(balance("al"))
	are(t, "Call", m, ask(1, 0, 0, 1, 2, balance("al")))
	_, done, _ := n.Hear(say(t, answer(0, 1, 0, 1, 1, 9)))
	_, more, _ := n.Hear(say(t, answer(0, 1, 0, 1, 2, 8)))
	clear(done[:cap(done)])
	if !slices.Equal(more, []api.Done{{Node: 1, ID: 2, Amount: 8}}) {
		t.Errorf("%v", more)
	}
}

// spoil writes over flights, and over the room behind them.
func spoil(l []api.Flight) {
	for _, f := range l {
		spoilBytes(f.Bytes)
	}
	clear(l[:cap(l)])
}

func spoilBytes(b []byte) {
	b = b[:cap(b)]
	for i := range b {
		b[i] = 0xee
	}
}

// tail is what stands in a spelling from line i on.
func tail(s string, i int) string {
	l := bytes.Split([]byte(s), []byte("\n"))
	return string(bytes.Join(l[i:], []byte("\n")))
}

// P16.8: two nodes over two disks have nothing in common, of one configuration and number.
func TestTwo(t *testing.T) {
	c := conf()
	c.Nodes, c.Copies = 1, 1
	d, e := empty(t), empty(t)
	one, other := start(t, c, 0, d), start(t, c, 0, e)
	was := fmt.Sprint(e.Crash([]int{-1, -1}))
	for life := uint64(2); life < 5; life++ {
		one = start(t, c, 0, d)
	}
	for range 10 {
		one.Tick()
	}
	one.Call(balance("al"))
	one.Hear(say(t, write(0, 0, 0, 7, 1, "v", 5)))
	if other.Life() != 1 || fmt.Sprint(e.Crash([]int{-1, -1})) != was {
		t.Error("the other has changed")
	}
	keeps(t, "the other", other, c, 0, e, 0, stored(0, 0, 0, firstValue(c, 0)))
	lapse(t, other, 3)
	ticks(t, "the other", other, write(0, 0, 0, 1, 1, firstValue(c, 0), 9), write(0, 0, 1, 1, 1, firstValue(c, 1), 9))
	off(t, d)
	one.Hear(say(t, write(0, 0, 0, 9, 2, "v", 5)))
	isDown(t, "one", one, 4)
	if id, l, e := other.Call(balance("al")); id != 1 || len(l) != 1 || e != api.OK {
		t.Errorf("Call: %d, %d", id, e)
	}
}
