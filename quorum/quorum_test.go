package quorum_test

import (
	"math"
	"testing"

	"tally/api"
	"tally/quorum"
)

// The chapter's examples, one behind the other.
func TestExamples(t *testing.T) {
	q := three()
	sends(t, "Start", q.Start(4, api.Stored{Promised: 3, Tag: at(3, 2), Value: []byte("x")}, 5), "prepare 4 >4,2")
	is(t, "Start", q, `preparing epoch 4 seen 0 chosen 0.0 "" round 0/0`)
	deaf(t, q, promise(4, 3, at(0, 0), ""), promise(7, 4, at(0, 0), ""))
	hears(t, q, promise(4, 4, at(2, 9), "y"), "write 4.1 x /5 >1,4,2", `writing epoch 4 seen 0 chosen 0.0 "" round 0/0`)
	deaf(t, q, promise(2, 4, at(9, 9), "z"))
	deaf(t, q, wrote(4, 4, 1), wrote(4, 4, 1))
	hears(t, q, wrote(1, 4, 1), "", `ready holds epoch 4 seen 0 chosen 4.1 "x" round 0/0`)
	sends(t, "Tick", q.Tick(5), "beat 4.1 /5 >1,4,2")
	is(t, "Tick", q, `ready holds epoch 4 seen 0 chosen 4.1 "x" round 1/0`)
	proposes(t, q, "w", "write 4.2 w /5 >1,4,2", true)
	is(t, "Propose", q, `writing holds epoch 4 seen 0 chosen 4.1 "x" round 1/0`)
	proposes(t, q, "v", "", false)
	sends(t, "Tick", q.Tick(5), "write 4.2 w /5 >1,4,2; beat 4.1 /5 >1,4,2")
	deaf(t, q, beaten(2, 4, 1), beaten(2, 4, 1))
	hears(t, q, beaten(1, 4, 1), "", `writing holds epoch 4 seen 0 chosen 4.1 "x" round 1/1`)
	deaf(t, q, wrote(2, 4, 2))
	sends(t, "Tick", q.Tick(5), "write 4.2 w /5 >1,4; beat 4.2 /5 >1,4,2")
	for range 2 {
		hears(t, q, refuse(2, 4, 9), "", `writing holds epoch 4 seen 9 chosen 4.1 "x" round 2/1`)
	}
	hears(t, q, refuse(4, 4, 8), "", `idle epoch 0 seen 9 chosen 0.0 "" round 0/0`)
}

func proposes(t *testing.T, q *quorum.Quorum, value, told string, want bool) {
	t.Helper()
	was := state(q)
	l, ok := q.Propose([]byte(value), 5)
	if tells(l) != told || ok != want {
		t.Fatalf("%s: Propose %q: %q, %v, want %q, %v", was, value, tells(l), ok, told, want)
	}
	if !want {
		is(t, "refused", q, was)
	}
}

const idle = `idle epoch 0 seen 0 chosen 0.0 "" round 0/0`

// P10.1: a new one is idle, has seen nothing, and says nothing.
func TestNew(t *testing.T) {
	for _, copies := range [][]int{{1}, {1, 4, 2}, {4, 0, 1, 7, 2}} {
		q := quorum.New(node, shard, copies)
		is(t, "new", q, idle)
		sends(t, "Tick", q.Tick(5), "")
		proposes(t, q, "v", "", false)
		deaf(t, q, promise(1, 0, at(1, 1), "x"), wrote(1, 0, 0), wrote(1, 0, 1), beaten(1, 0, 0), beaten(1, 0, 1), refuse(1, 0, 0))
		is(t, "still", q, idle)
	}
}

// P10.2: it begins preparing with whatever epoch; the own copy counts as one that has promised; prepares go to the others, in their order.
func TestStart(t *testing.T) {
	for _, c := range []struct {
		copies []int
		epoch  uint64
		told   string
	}{
		{[]int{1, 4, 2}, 4, "prepare 4 >4,2"},
		{[]int{4, 1, 2}, 5, "prepare 5 >4,2"},
		{[]int{2, 4, 1}, 0, "prepare 0 >2,4"},
		{[]int{4, 0, 1, 7, 2}, api.MaxNumber, "prepare 1099511627776 >4,0,7,2"},
		{[]int{6, 5, 4, 3, 2, 1, 0}, math.MaxUint64, "prepare 18446744073709551615 >6,5,4,3,2,0"},
	} {
		q := quorum.New(node, shard, c.copies)
		sends(t, "Start", q.Start(c.epoch, own(at(0, 0), "v"), 5), c.told)
		if q.Phase() != api.PhasePreparing || q.Epoch() != c.epoch || q.Holds() || q.Seen() != 0 {
			t.Errorf("%v: %s", c.copies, state(q))
		}
		deaf(t, q, promise(1, c.epoch, at(9, 9), "mine"))
		sends(t, "Tick", q.Tick(5), c.told)
	}
}

// P10.2: of one copy alone the first write comes at once.
func TestStartAlone(t *testing.T) {
	q := quorum.New(node, shard, []int{1})
	sends(t, "Start", q.Start(6, own(at(3, 2), "x"), 8), "write 6.1 x /8 >1")
	is(t, "Start", q, `writing epoch 6 seen 0 chosen 0.0 "" round 0/0`)
	sends(t, "Tick", q.Tick(9), "write 6.1 x /9 >1")
	hears(t, q, wrote(1, 6, 1), "", `ready holds epoch 6 seen 0 chosen 6.1 "x" round 0/0`)
	sends(t, "Tick", q.Tick(9), "beat 6.1 /9 >1")
	hears(t, q, beaten(1, 6, 1), "", `ready holds epoch 6 seen 0 chosen 6.1 "x" round 1/1`)
	proposes(t, q, "y", "write 6.2 y /5 >1", true)
	hears(t, q, wrote(1, 6, 2), "", `ready holds epoch 6 seen 0 chosen 6.2 "y" round 1/1`)
	hears(t, q, refuse(1, 6, 7), "", `idle epoch 0 seen 7 chosen 0.0 "" round 0/0`)
}

// P10.2: what the own copy is said to have promised is not looked at.
func TestStartPromised(t *testing.T) {
	for _, promised := range []uint64{0, 3, 4, 5, math.MaxUint64} {
		q := three()
		sends(t, "Start", q.Start(4, api.Stored{Promised: promised, Tag: at(3, 2), Value: []byte("x")}, 5), "prepare 4 >4,2")
		hears(t, q, promise(2, 4, at(3, 1), "y"), "write 4.1 x /5 >1,4,2", `writing epoch 4 seen 0 chosen 0.0 "" round 0/0`)
	}
}

// stages: quorums of three copies with epoch 4 and Seen 9 in all phases, with all that can have been counted there.
func stages(t *testing.T) map[string]*quorum.Quorum {
	out := map[string]*quorum.Quorum{}
	lay := func(what string, more func(q *quorum.Quorum)) {
		q := three()
		q.Hear(refuse(2, 1, 9), 5)
		more(q)
		out[what] = q
	}
	prepare := func(q *quorum.Quorum) { q.Start(4, own(at(3, 2), "x"), 5) }
	write := func(q *quorum.Quorum) {
		prepare(q)
		q.Hear(promise(4, 4, at(0, 0), ""), 5)
		q.Hear(wrote(2, 4, 1), 5)
	}
	ready := func(q *quorum.Quorum) {
		write(q)
		q.Hear(wrote(1, 4, 1), 5)
		q.Tick(5)
		q.Hear(beaten(1, 4, 1), 5)
		q.Hear(refuse(2, 4, 5), 5)
	}
	lay("idle", func(q *quorum.Quorum) {})
	lay("preparing", prepare)
	lay("writing", write)
	lay("ready", ready)
	lay("writing on", func(q *quorum.Quorum) {
		ready(q)
		q.Propose([]byte("w"), 5)
		q.Hear(wrote(2, 4, 2), 5)
		q.Hear(beaten(4, 4, 1), 5)
		q.Tick(5)
		q.Hear(beaten(2, 4, 2), 5)
	})
	return out
}

// P10.2: in whatever phase it begins anew: nobody is counted any more, nothing is chosen, no round has begun; Seen alone stays. The same epoch begins anew, too.
func TestStartAnew(t *testing.T) {
	for _, epoch := range []uint64{4, 7} {
		for what, q := range stages(t) {
			sends(t, what, q.Start(epoch, own(at(1, 1), "own"), 5), "prepare "+str(epoch)+" >4,2")
			is(t, what, q, `preparing epoch `+str(epoch)+` seen 9 chosen 0.0 "" round 0/0`)
			hears(t, q, promise(2, epoch, at(0, 5), "x"), "write "+str(epoch)+".1 own /5 >1,4,2", `writing epoch `+str(epoch)+` seen 9 chosen 0.0 "" round 0/0`)
			deaf(t, q, wrote(2, epoch, 1), wrote(2, epoch, 2), wrote(1, epoch, 0))
			hears(t, q, wrote(1, epoch, 1), "", `ready holds epoch `+str(epoch)+` seen 9 chosen `+str(epoch)+`.1 "own" round 0/0`)
			sends(t, what, q.Tick(5), "beat "+str(epoch)+".1 /5 >1,4,2")
			deaf(t, q, beaten(1, epoch, 1), beaten(1, epoch, 2), refuse(4, epoch, 9), refuse(4, epoch, 9))
			sends(t, what, q.Tick(5), "beat "+str(epoch)+".1 /5 >4,2")
		}
	}
}

// P10.7: behind Stop it is idle: Epoch, Chosen and Round are zero, Seen stays, and nothing but a refuse does anything.
func TestStop(t *testing.T) {
	for what, q := range stages(t) {
		for range 2 {
			q.Stop()
			is(t, what, q, `idle epoch 0 seen 9 chosen 0.0 "" round 0/0`)
			sends(t, what, q.Tick(5), "")
			proposes(t, q, "v", "", false)
			for _, epoch := range []uint64{0, 4} {
				for _, from := range []int{1, 4, 2} {
					deaf(t, q, promise(from, epoch, at(5, 5), "x"), wrote(from, epoch, 0), wrote(from, epoch, 1), wrote(from, epoch, 2), beaten(from, epoch, 0), beaten(from, epoch, 1), beaten(from, epoch, 2), refuse(from, epoch, 9))
				}
			}
		}
		hears(t, q, refuse(2, 4, 12), "", `idle epoch 0 seen 12 chosen 0.0 "" round 0/0`)
	}
}

// P10.7: asking changes nothing, however often.
func TestToldAgain(t *testing.T) {
	want := map[string]string{
		"idle":       `idle epoch 0 seen 9 chosen 0.0 "" round 0/0`,
		"preparing":  `preparing epoch 4 seen 9 chosen 0.0 "" round 0/0`,
		"writing":    `writing epoch 4 seen 9 chosen 0.0 "" round 0/0`,
		"ready":      `ready holds epoch 4 seen 9 chosen 4.1 "x" round 1/0`,
		"writing on": `writing holds epoch 4 seen 9 chosen 4.1 "x" round 2/1`,
	}
	for what, q := range stages(t) {
		for range 3 {
			is(t, what, q, want[what])
		}
	}
}

// P10.5: it proposes only when it is ready; the next seq, to all copies, counted anew.
func TestPropose(t *testing.T) {
	for what, q := range stages(t) {
		if what != "ready" {
			proposes(t, q, "v", "", false)
		}
	}
	q := five()
	hold(t, q, []int{4, 0, 1, 7, 2}, 6, "x")
	last := "x"
	for seq := uint64(2); seq < 20; seq++ {
		value := "v" + str(seq)
		proposes(t, q, value, "write 6."+str(seq)+" "+value+" /5 >4,0,1,7,2", true)
		stays := `writing holds epoch 6 seen 0 chosen 6.` + str(seq-1) + ` "` + last + `" round 0/0`
		is(t, "proposed", q, stays)
		proposes(t, q, "no", "", false)
		deaf(t, q, wrote(4, 6, seq), wrote(2, 6, seq), wrote(4, 6, seq), wrote(0, 6, seq-1), wrote(0, 6, seq+1), wrote(0, 5, seq))
		hears(t, q, wrote(0, 6, seq), "", `ready holds epoch 6 seen 0 chosen 6.`+str(seq)+` "`+value+`" round 0/0`)
		last = value
	}
}

// P10.5, R3: a value of no bytes, nil or not, is one.
func TestProposeNoBytes(t *testing.T) {
	for _, v := range [][]byte{nil, {}, []byte("xyz")[:0]} {
		q := three()
		hold(t, q, []int{1, 4, 2}, 4, "x")
		l, ok := q.Propose(v, 5)
		sends(t, "no bytes", l, "write 4.2  /5 >1,4,2")
		if !ok {
			t.Errorf("not proposed")
		}
		deaf(t, q, wrote(1, 4, 2))
		hears(t, q, wrote(2, 4, 2), "", `ready holds epoch 4 seen 0 chosen 4.2 "" round 0/0`)
	}
}

// P10.2, P10.5, P10.6: the span is the one of the call, whatever number, and none that was handed in ahead.
func TestSpan(t *testing.T) {
	for _, span := range []int{0, -1, 7, math.MaxInt, math.MinInt} {
		q := three()
		q.Start(4, own(at(0, 0), "x"), 99)
		spans := func(l []api.Msg, n int) {
			t.Helper()
			for _, m := range l {
				if m.Span != span || m.Kind == api.MsgPrepare {
					t.Errorf("%+v, want span %d", m, span)
				}
			}
			if len(l) != n {
				t.Errorf("%d messages, want %d", len(l), n)
			}
		}
		spans(q.Hear(promise(2, 4, at(0, 0), ""), span), 3)
		spans(q.Tick(span), 3)
		q.Hear(wrote(1, 4, 1), 99)
		q.Hear(wrote(4, 4, 1), 99)
		spans(q.Tick(span), 3)
		q.Tick(99)
		l, _ := q.Propose(nil, span)
		spans(l, 3)
		spans(q.Tick(span), 6)
		spans(quorum.New(1, 0, []int{1}).Start(4, own(at(0, 0), "x"), span), 1)
	}
}

// R1: of other lists of copies nothing is said, but that every call ends.
func TestOtherCopies(t *testing.T) {
	for _, copies := range [][]int{nil, {}, {4}, {1, 1, 1}, {1, 2}, {4, 2, 0}, {4, 4, 1, 1}, {-1, math.MaxInt, math.MinInt}} {
		q := quorum.New(node, shard, copies)
		for range 3 {
			q.Start(4, own(at(0, 0), "x"), 5)
			for _, from := range []int{1, 4, 2, 0, -1} {
				q.Tick(5)
				q.Hear(promise(from, 4, at(1, 1), "y"), 5)
				q.Hear(wrote(from, 4, 1), 5)
				q.Hear(beaten(from, 4, 1), 5)
				q.Propose([]byte("z"), 5)
			}
			for _, from := range []int{1, 4, 2, 0, -1} {
				q.Hear(refuse(from, 4, 9), 5)
			}
			state(q)
		}
		q.Stop()
	}
}
