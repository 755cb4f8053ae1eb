package writer_test

import (
	"testing"

	"tally/api"
	"tally/shard"
	"tally/writer"
)

// P14.1, P14.6: a new one is idle and has no book; what comes to a holder does nothing.
func TestNew(t *testing.T) {
	d := open(t)
	d.stands("new", api.PhaseIdle, false, 0, api.FirstPatience)
	d.bookless("new")
	for _, m := range []api.Msg{d.submit(0, 1, 1), d.balance(1, d.here[0]), d.status(2, 0, 1), d.toll(0, 1, 1), d.release(2, 1)} {
		sends(d, "new", d.hear(m))
	}
	sends(d, "it holds", d.hold(1, value(first(d.c))))
	sends(d, "nothing has waited", d.alive())
}

// P14.1, P14.2: of every cluster, shard and copy: its patience is FirstPatience and its place, as the lease made it; its epochs are its place modulo Copies, above what it has seen.
func TestFirstEpoch(t *testing.T) {
	for nodes := 1; nodes <= api.MaxNodes; nodes++ {
		for n := 1; n <= min(nodes, api.MaxCopies); n += 2 {
			for s := range api.MaxShards {
				c := api.Config{Nodes: nodes, Shards: api.MaxShards, Copies: n, Clients: 1, Queue: 1, Cap: 1, Patience: 10, Flight: 1}
				for place, node := range copiesOf(t, c, s) {
					d := &desk{T: t, c: c, w: writer.New(c, node, s, 20)}
					epoch, ticks := d.epoch()
					if ticks != api.FirstPatience+place || epoch <= 20 || epoch > 20+uint64(n) || epoch%uint64(n) != uint64(place) {
						t.Fatalf("%d nodes, %d copies, shard %d, place %d: epoch %d behind %d ticks", nodes, n, s, place, epoch, ticks)
					}
					d.stands("behind the tick", api.PhaseIdle, false, 0, 8)
					if again, ticks := d.epoch(); again != epoch+uint64(n) || ticks != 8 {
						t.Fatalf("the next: %d behind %d ticks", again, ticks)
					}
					d.stands("at its most", api.PhaseIdle, false, 0, 10)
				}
			}
		}
	}
}

// P14.1: what the own copy has promised counts as seen.
func TestSeen(t *testing.T) {
	for seen, want := range map[uint64]uint64{0: 1, 1: 4, 3: 4, 4: 7, 1000: 1003, api.MaxNumber - 3: api.MaxNumber} {
		if e, _ := openWith(t, three(), seen).epoch(); e != want {
			t.Errorf("seen %d: %d, want %d", seen, e, want)
		}
	}
	// Behind the last epoch it does not run any more.
	d := openWith(t, three(), api.MaxNumber)
	d.ticks(200)
	d.stands("at the end", api.PhaseIdle, false, 0, 4)
}

// P14.2: an epoch is told when the own copy keeps nobody out, and not ahead.
func TestFree(t *testing.T) {
	d := open(t)
	for range 9 {
		if l, epoch := d.w.Tick(false); len(l) != 0 || epoch != 0 {
			t.Fatalf("not free: %+v, %d", l, epoch)
		}
	}
	if l, epoch := d.w.Tick(true); len(l) != 0 || epoch != 1 {
		t.Fatalf("free: %+v, %d", l, epoch)
	}
	// Who called has not begun it (its copy has promised more): it stands by and waits anew.
	d.stands("not begun", api.PhaseIdle, false, 0, 8)
	if e, n := d.epoch(); e != 4 || n != 8 {
		t.Errorf("the next: %d behind %d", e, n)
	}
}

// P14.2, P14.3: what runs: the prepares and the first writes go again with each tick, patience does not count, and each span is the patience and 1.
func TestRuns(t *testing.T) {
	d := open(t)
	d.epoch()
	s := value(first(d.c))
	sends(d, "Begin", d.begin(1, s), d.prepares(1)...)
	d.stands("preparing", api.PhasePreparing, false, 1, 8)
	for range 30 {
		sends(d, "Tick", d.tick(), d.prepares(1)...)
	}
	tag := api.Tag{Epoch: 1, Seq: 1}
	other := value(d.paid(first(d.c), d.submit(0, 1, 3)))
	other.Tag.Seq = 1
	sends(d, "a majority has promised", d.hear(d.promise(d.others[0], 1, other)), d.writes(tag, other.Value, 9, d.copies...)...)
	d.stands("writing", api.PhaseWriting, false, 1, 8)
	d.bookless("writing the first")
	sends(d, "one has stored it", d.hear(d.wrote(d.others[1])))
	for range 30 {
		sends(d, "Tick", d.tick(), d.writes(tag, other.Value, 9, d.copies[0], d.node)...)
	}
	sends(d, "a majority has stored it", d.hear(d.wrote(d.node)))
	d.stands("holding", api.PhaseReady, true, 1, 8)
	b, bad := shard.Decode(other.Value)
	if bad != api.OK {
		t.Fatal(bad)
	}
	d.is("the greatest promised", b)
}

// P14.2, P14.3: one copy alone: its writes come with Begin.
func TestAlone(t *testing.T) {
	c := three()
	c.Copies = 1
	d := openWith(t, c, 0)
	if e, n := d.epoch(); e != 1 || n != 4 {
		t.Fatalf("epoch %d behind %d ticks", e, n)
	}
	b := first(c)
	sends(d, "Begin", d.begin(1, value(b)), d.writes(api.Tag{Epoch: 1, Seq: 1}, shard.Encode(b), 9, d.node)...)
	d.stands("writing", api.PhaseWriting, false, 1, 8)
	sends(d, "stored", d.hear(d.wrote(d.node)))
	d.is("chosen", b)
	sends(d, "Tick", d.tick(), d.beats(1, 1, 9, d.node)...)
}

// P14.2: as a holder it sends what is not answered again, then beats, then settles.
func TestHolds(t *testing.T) {
	d := holder(t)
	two := copiesOf(t, d.c, 2)
	sends(d, "a round", d.tick(), d.beats(1, 1, 9, d.copies...)...)
	sends(d, "again", d.tick(), d.beats(1, 1, 9, d.copies...)...)
	sends(d, "one answers", d.hear(d.beaten(d.node)))
	sends(d, "the others", d.tick(), d.beats(1, 1, 9, d.others...)...)
	sends(d, "the round is done", d.hear(d.beaten(d.others[0])))
	sends(d, "the next", d.tick(), d.beats(1, 2, 9, d.copies...)...)
	d.done()

	pay := d.pay(0, 1, d.there[0], 4)
	b := d.paid(first(d.c), pay)
	sends(d, "a payment", d.hear(pay), d.proposed(2, b)...)
	sends(d, "writes and beats", d.tick(), append(d.proposed(2, b), d.beats(1, 3, 9, d.copies...)...)...)
	sends(d, "chosen", d.stored(), d.answer(pay, api.OK))
	d.is("chosen", b)
	toll := d.to(api.MsgSettle, two[0])
	toll.Peer, toll.Number, toll.Name, toll.Amount = 2, 1, d.there[0], 4
	sends(d, "a settle behind the beats", d.tick(), append(d.beats(1, 3, 9, d.copies...), toll)...)
	d.done()
	next := d.pay(0, 2, d.there[0], 1)
	sends(d, "one more", d.hear(next), d.proposed(3, d.paid(b, next))...)
	toll.To = two[1]
	sends(d, "all three", d.tick(), append(append(d.proposed(3, d.paid(b, next)), d.beats(1, 4, 9, d.copies...)...), toll)...)
}

// P14.2, P14.4: who holds and has no round done is out of its lease as many ticks later as its patience; at that tick it sends nothing, it stands by, and all is gone.
func TestOutOfLease(t *testing.T) {
	d := holder(t)
	pay := d.pay(0, 1, d.there[0], 4)
	d.hear(pay)
	d.stored()
	d.hear(d.submit(1, 1, 1))
	d.hear(d.submit(1, 2, 1))
	d.hear(d.balance(1, d.here[0]))
	d.hear(d.toll(0, 1, 1))
	for i := range 7 {
		if l := d.tick(); len(l) == 0 {
			t.Fatalf("tick %d: nothing", i+1)
		}
	}
	d.stands("the seventh tick", api.PhaseWriting, true, 1, 8)
	sends(d, "the eighth", d.tick())
	d.stands("the eighth", api.PhaseIdle, false, 0, 8)
	d.bookless("it stands by")
	for _, m := range []api.Msg{d.submit(0, 1, 1), d.balance(1, d.here[0]), d.status(2, 0, 1), d.toll(0, 1, 1), d.release(2, 1)} {
		sends(d, "it stands by", d.hear(m))
	}
	// It rests: it has as many ticks left as its patience.
	if e, n := d.epoch(); e != 4 || n != 8 {
		t.Fatalf("epoch %d behind %d", e, n)
	}
	sends(d, "nothing waits, nothing was under way", d.hold(4, value(first(d.c))))
	d.stands("it holds again", api.PhaseReady, true, 4, 16)
	d.is("the book", first(d.c))
	sends(d, "nor is anything to be settled", d.tick(), d.beats(4, 1, 17, d.copies...)...)
	sends(d, "nor has anybody asked", d.done())
}

// P14.2, P14.4: the lease goes by the begin of the last round that is done.
func TestLeaseGoesOn(t *testing.T) {
	d := holder(t)
	d.ticks(3) // round 1 began with the first of them
	d.done()
	d.ticks(5) // round 2 with the first of these
	d.stands("seven ticks since round 1 began", api.PhaseReady, true, 1, 8)
	sends(d, "eight", d.tick())
	d.stands("out", api.PhaseIdle, false, 0, 8)

	d = holder(t)
	for range 20 {
		d.ticks(4) // with the last of them seven since the round ahead began
		sends(d, "done", d.done())
		d.stands("done in time", api.PhaseReady, true, 1, 8)
	}
	d.ticks(4)
	d.stands("seven ticks since the last round that is done began", api.PhaseReady, true, 1, 8)
	d.tick()
	d.stands("eight", api.PhaseIdle, false, 0, 8)

	// A wrote is no beaten: writes that are chosen do not help.
	d = holder(t)
	for n := range uint64(7) {
		d.tick()
		d.hear(d.submit(0, n+1, 1))
		d.stored()
	}
	d.tick()
	d.stands("out", api.PhaseIdle, false, 0, 8)
}

// P14.3: whatever it was doing is over: the settle is stopped, the book and all that waits are gone.
func TestBegin(t *testing.T) {
	d := holder(t)
	d.hear(d.pay(0, 1, d.there[0], 4))
	d.stored()
	d.hear(d.balance(1, d.here[0]))
	d.tick()
	d.hear(d.balance(2, d.here[0]))
	d.hear(d.submit(1, 1, 1))
	for _, m := range []api.Msg{d.submit(1, 2, 1), d.toll(0, 1, 1), d.release(2, 1)} {
		sends(d, "it waits", d.hear(m))
	}
	sends(d, "Begin", d.begin(7, value(first(d.c))), d.prepares(7)...)
	d.stands("anew", api.PhasePreparing, false, 7, 8)
	d.bookless("anew")
	sends(d, "prepares and no settle", d.tick(), d.prepares(7)...)
	sends(d, "another epoch's wrote", d.hear(d.wrote(d.node)))
	sends(d, "it holds", d.hold(9, value(first(d.c))))
	d.is("the book", first(d.c))
	sends(d, "no settle", d.tick(), d.beats(9, 1, 9, d.copies...)...)
	sends(d, "no answer", d.done())
}

// P14.3, P14.4: an epoch may be begun at any time; what is left of patience does not count meanwhile, and behind it it rests.
func TestBeginAheadOfTime(t *testing.T) {
	d := open(t)
	d.ticks(2) // three of five are left
	sends(d, "Begin", d.begin(1, value(first(d.c))), d.prepares(1)...)
	d.ticks(50)
	d.stands("preparing", api.PhasePreparing, false, 1, 4)
	sends(d, "refused", d.hear(d.refuse(d.others[0], 1, 2)))
	d.stands("it rests now", api.PhaseIdle, false, 0, 4)
	if e, n := d.epoch(); e != 4 || n != 4 {
		t.Fatalf("epoch %d behind %d", e, n)
	}
}

// P14.6, R3: the holder's book is the last one that is chosen, not the one that is being written.
func TestBook(t *testing.T) {
	d := holder(t)
	b := first(d.c)
	d.is("the first", b)
	ask := d.submit(0, 1, 4)
	d.hear(ask)
	d.is("not yet", b)
	d.stands("writing", api.PhaseWriting, true, 1, 8)
	d.tick()
	d.is("not yet", b)
	d.stored()
	b = d.paid(b, ask)
	d.is("now", b)
	d.stands("ready", api.PhaseReady, true, 1, 8)
}

// P14.4, P14.6: what is chosen and is no book of the shard, or not of the configuration's numbers, is none; it holds all the same.
func TestNoBook(t *testing.T) {
	c := three()
	more := func(shards, clients, of int) []byte {
		x := c
		x.Shards, x.Clients = shards, clients
		return shard.Encode(shard.New(x, of))
	}
	for what, v := range map[string][]byte{
		"no bytes": nil, "no book": []byte("x"), "another shard's": shard.Encode(shard.New(c, 0)), "four shards": more(4, 3, own), "two shards": more(2, 3, own), "two clients": more(3, 2, own), "four clients": more(3, 4, own),
	} {
		d := open(t)
		d.epoch()
		d.hold(1, api.Stored{Value: v})
		d.bookless(what)
		for _, m := range []api.Msg{d.submit(0, 1, 1), d.balance(1, d.here[0]), d.status(2, 0, 1), d.toll(0, 0, 1), d.toll(0, 1, 1), d.release(2, 1)} {
			sends(d, what, d.hear(m))
		}
		for round := range uint64(5) {
			sends(d, what, d.tick(), d.beats(1, round+1, 9, d.copies...)...)
			sends(d, what, d.done())
		}
		d.stands(what, api.PhaseReady, true, 1, 8)
	}
}
