package writer_test

import (
	"math"
	"testing"

	"tally/api"
)

// P14.4: what is not to the node, or not about the shard, does nothing; a settle is about its Peer.
func TestNotMeant(t *testing.T) {
	spoil := map[string]func(m *api.Msg){
		"not to the node":     func(m *api.Msg) { m.To++ },
		"to nobody":           func(m *api.Msg) { m.To = -1 },
		"not about the shard": func(m *api.Msg) { m.Shard, m.Peer = 2-m.Shard, 2 },
		"no kind":             func(m *api.Msg) { m.Kind = api.MsgNone },
		"an answer":           func(m *api.Msg) { m.Kind = api.MsgAnswer },
		"below all kinds":     func(m *api.Msg) { m.Kind = math.MinInt },
		"above all kinds":     func(m *api.Msg) { m.Kind = api.MsgAnswer + 1 },
	}
	for what, turn := range spoil {
		d := holder(t)
		d.hear(d.pay(0, 1, d.there[0], 4))
		d.stored()
		b := d.paid(first(d.c), d.pay(0, 1, d.there[0], 4))
		rival := d.from(api.MsgBeat, d.others[0])
		rival.Epoch = 5
		for _, m := range []api.Msg{rival, d.submit(0, 1, 4), d.submit(0, 2, 4), d.balance(1, d.here[0]), d.toll(0, 0, 1), d.toll(0, 1, 1), d.release(2, 1), d.refuse(d.others[0], 1, 9), d.refuse(d.others[1], 1, 9)} {
			if m.Shard == own && what == "not about the shard" {
				m.Shard = 0
			} else {
				turn(&m)
			}
			sends(d, what, d.w.Hear(m, true))
		}
		d.stands(what, api.PhaseReady, true, 1, 8)
		d.is(what, b)
		d.tick()
		sends(d, what, d.done())
	}
	// A settled is about its Shard, whoever its Peer is; a settle about its Peer.
	d := holder(t)
	d.hear(d.pay(0, 1, d.there[0], 4))
	d.stored()
	m := d.release(2, 1)
	m.Shard, m.Peer = 2, own
	sends(d, "a settled of another source", d.hear(m))
	m = d.toll(0, 1, 1)
	m.Shard, m.Peer = own, 0
	sends(d, "a settle to another peer", d.hear(m))
	d.stands("nothing", api.PhaseReady, true, 1, 8)
}

// rivals: what another node sends that runs or holds an epoch.
func rivals(d *desk, epoch uint64) map[string]api.Msg {
	p, w, b := d.from(api.MsgPrepare, d.others[0]), d.from(api.MsgWrite, d.others[0]), d.from(api.MsgBeat, d.others[0])
	p.Epoch, w.Tag, b.Epoch = epoch, api.Tag{Epoch: epoch, Seq: 1}, epoch
	// A write's epoch is its tag's.
	w.Epoch = 1 << 30
	return map[string]api.Msg{"prepare": p, "write": w, "beat": b}
}

// P14.4: what ends running and holding: running a greater epoch of any kind; holding one of a write or beat.
func TestRivals(t *testing.T) {
	stages := map[string]func(*testing.T) *desk{
		"preparing": func(t *testing.T) *desk {
			d := open(t)
			d.epoch()
			d.begin(1, value(first(d.c)))
			return d
		},
		"writing the first": func(t *testing.T) *desk {
			d := open(t)
			d.epoch()
			d.begin(1, value(first(d.c)))
			d.hear(d.promise(d.others[0], 1, api.Stored{}))
			return d
		},
		"ready":   holder,
		"writing": busy,
	}
	for stage, at := range stages {
		for _, kind := range []string{"prepare", "write", "beat"} {
			for _, epoch := range []uint64{0, 1, 2, 5, math.MaxUint64} {
				for _, taken := range []bool{false, true} {
					d := at(t)
					phase, holds := d.w.Phase(), d.w.Holds()
					sends(d, stage, d.w.Hear(rivals(d, epoch)[kind], taken))
					if epoch > 1 && (!holds || kind != "prepare") {
						phase, holds = api.PhaseIdle, false
					}
					if d.w.Phase() != phase || d.w.Holds() != holds {
						t.Fatalf("%s, %s of %d: phase %d, holds %v", stage, kind, epoch, d.w.Phase(), d.w.Holds())
					}
				}
			}
		}
	}
}

// P14.4: when it stands by, all is gone, and it waits as many ticks as its patience.
func TestRivalEndsHolding(t *testing.T) {
	for _, kind := range []string{"write", "beat"} {
		d := busy(t)
		d.ticks(3)
		sends(d, "a read", d.hear(d.balance(1, d.here[0])))
		sends(d, "an ask", d.hear(d.submit(0, 1, 1)))
		sends(d, kind, d.w.Hear(rivals(d, 2)[kind], true))
		d.stands(kind, api.PhaseIdle, false, 0, 8)
		d.bookless(kind)
		if e, n := d.epoch(); e != 4 || n != 8 {
			t.Fatalf("epoch %d behind %d", e, n)
		}
		sends(d, "nothing waits", d.hold(4, value(first(d.c))))
		sends(d, "nothing waits", d.alive())
	}
}

// P14.4: from the node itself they do nothing, not even to the lease.
func TestRivalItself(t *testing.T) {
	for _, kind := range []string{"prepare", "write", "beat"} {
		d := open(t)
		d.ticks(3)
		m := rivals(d, 50)[kind]
		m.From = d.node
		sends(d, kind, d.w.Hear(m, true))
		if e, n := d.epoch(); e != 1 || n != 2 {
			t.Fatalf("%s: epoch %d behind %d", kind, e, n)
		}
		d.begin(1, value(first(d.c)))
		sends(d, kind, d.w.Hear(m, true))
		d.stands(kind, api.PhasePreparing, false, 1, 8)
		d = holder(t)
		sends(d, kind, d.w.Hear(m, true))
		d.stands(kind, api.PhaseReady, true, 1, 8)
	}
}

// P14.4: what the lease is told of another node's epochs: it waits anew at a prepare that is not below all that it has seen, and whenever its own copy has taken one; and it has seen all of them.
func TestLeaseHears(t *testing.T) {
	for _, x := range []struct {
		what  string
		kind  string
		epoch uint64
		taken bool
		ticks int
		next  uint64
	}{
		{"a prepare", "prepare", 5, false, 4, 7},
		{"a prepare of what it has seen", "prepare", 3, false, 4, 4},
		{"an older prepare", "prepare", 2, false, 2, 4},
		{"an older prepare that counts as taken", "prepare", 2, true, 4, 4},
		{"a write that was refused", "write", 5, false, 2, 7},
		{"a write that was taken", "write", 5, true, 4, 7},
		{"a beat that was refused", "beat", 6, false, 2, 7},
		{"a beat that was taken", "beat", 7, true, 4, 10},
		{"an older one that was taken", "beat", 1, true, 4, 4},
	} {
		d := openWith(t, three(), 3)
		d.ticks(3)
		sends(d, x.what, d.w.Hear(rivals(d, x.epoch)[x.kind], x.taken))
		if e, n := d.epoch(); e != x.next || n != x.ticks {
			t.Errorf("%s: epoch %d behind %d, want %d behind %d", x.what, e, n, x.next, x.ticks)
		}
	}
	// From nodes that have no copy, too.
	d := open(t)
	m := rivals(d, 5)["prepare"]
	m.From = 99
	d.ticks(3)
	d.w.Hear(m, false)
	if e, n := d.epoch(); e != 7 || n != 4 {
		t.Errorf("from nobody: epoch %d behind %d", e, n)
	}
}

// P14.4: a prepare of a greater epoch does not end holding, but the lease has seen it.
func TestPrepareToHolder(t *testing.T) {
	d := busy(t)
	sends(d, "a prepare", d.w.Hear(rivals(d, 50)["prepare"], false))
	d.stands("a prepare", api.PhaseWriting, true, 1, 8)
	sends(d, "it goes on", d.stored(), d.answer(d.submit(2, 1, 1), api.OK))
	d.ticks(8)
	if e, _ := d.epoch(); e != 52 {
		t.Errorf("the next epoch is %d", e)
	}
}

// P14.4: a refuse's Seen has been seen, whenever it comes, and ends what runs; then it stands by and waits anew.
func TestRefuse(t *testing.T) {
	d := open(t)
	d.ticks(3)
	sends(d, "idle", d.hear(d.refuse(d.others[0], 9, 20)))
	if e, n := d.epoch(); e != 22 || n != 2 {
		t.Fatalf("epoch %d behind %d", e, n)
	}
	d.begin(22, value(first(d.c)))
	d.ticks(3)
	sends(d, "of another epoch", d.hear(d.refuse(d.others[0], 21, 30)))
	sends(d, "not above", d.hear(d.refuse(d.others[0], 22, 22)))
	d.stands("it runs", api.PhasePreparing, false, 22, 8)
	sends(d, "above", d.hear(d.refuse(d.others[0], 22, 23)))
	d.stands("it stands by", api.PhaseIdle, false, 0, 8)
	if e, n := d.epoch(); e != 31 || n != 8 {
		t.Fatalf("epoch %d behind %d", e, n)
	}
	// From no copy, or not to it: not seen.
	sends(d, "from no copy", d.hear(d.refuse(99, 31, 90)))
	if e, _ := d.epoch(); e != 34 {
		t.Fatalf("epoch %d", e)
	}
}

// P14.4: holding ends when those that have not refused are no majority; then all that waits is gone.
func TestRefusedHolder(t *testing.T) {
	d := busy(t)
	d.hear(d.balance(1, d.here[0]))
	d.hear(d.submit(0, 1, 1))
	d.ticks(2)
	for range 3 {
		sends(d, "one copy", d.hear(d.refuse(d.others[0], 1, 6)))
		d.stands("one copy", api.PhaseWriting, true, 1, 8)
	}
	sends(d, "two copies", d.hear(d.refuse(d.others[1], 1, 5)))
	d.stands("two copies", api.PhaseIdle, false, 0, 8)
	d.bookless("two copies")
	if e, n := d.epoch(); e != 7 || n != 8 {
		t.Fatalf("epoch %d behind %d", e, n)
	}
	sends(d, "nothing waits", d.hold(7, value(first(d.c))))
	sends(d, "nothing waits", d.alive())
}

// P14.4: what of a copy's answers does not count does nothing.
func TestCounts(t *testing.T) {
	d := busy(t)
	late := d.wrote(d.others[0])
	late.Tag.Seq = 1
	sends(d, "an old tag", d.hear(late))
	sends(d, "one", d.hear(d.wrote(d.others[0])))
	sends(d, "the same", d.hear(d.wrote(d.others[0])))
	sends(d, "no copy", d.hear(d.wrote(99)))
	d.stands("one", api.PhaseWriting, true, 1, 8)
	sends(d, "two", d.hear(d.wrote(d.others[1])), d.answer(d.submit(2, 1, 1), api.OK))
	sends(d, "three", d.hear(d.wrote(d.node)))
	d.stands("three", api.PhaseReady, true, 1, 8)
}
