package quorum_test

import (
	"math"
	"strconv"
	"testing"

	"tally/api"
	"tally/quorum"
)

func str(n uint64) string { return strconv.FormatUint(n, 10) }

// P10.3: a message that is not to the node, not about the shard, or from none of the copies does nothing: a refuse too.
func TestNotForIt(t *testing.T) {
	others := []func(m api.Msg) api.Msg{
		func(m api.Msg) api.Msg { m.To = 2; return m },
		func(m api.Msg) api.Msg { m.To = -1; return m },
		func(m api.Msg) api.Msg { m.Shard = 0; return m },
		func(m api.Msg) api.Msg { m.Shard = -3; return m },
		func(m api.Msg) api.Msg { m.From = 0; return m },
		func(m api.Msg) api.Msg { m.From = 3; return m },
		func(m api.Msg) api.Msg { m.From = math.MaxInt; return m },
	}
	for what, q := range stages(t) {
		for _, other := range others {
			for _, from := range []int{1, 4, 2} {
				for _, m := range []api.Msg{promise(from, 4, at(5, 5), "p"), wrote(from, 4, 1), wrote(from, 4, 2), beaten(from, 4, 1), beaten(from, 4, 2), refuse(from, 4, 99)} {
					deaf(t, q, other(m))
				}
			}
		}
		if q.Seen() != 9 {
			t.Errorf("%s: Seen %d", what, q.Seen())
		}
	}
	// And none of that has counted anybody.
	q := stages(t)["preparing"]
	for _, other := range others {
		deaf(t, q, other(promise(4, 4, at(5, 5), "p")))
	}
	hears(t, q, promise(4, 4, at(1, 1), "p"), "write 4.1 x /5 >1,4,2", `writing epoch 4 seen 9 chosen 0.0 "" round 0/0`)
	for _, other := range others {
		deaf(t, q, other(wrote(4, 4, 1)))
	}
	sends(t, "Tick", q.Tick(5), "write 4.1 x /5 >1,4,2")
}

// P10.3: all other kinds, and numbers that are no kind, do nothing, whatever stands in their fields.
func TestOtherKinds(t *testing.T) {
	for _, kind := range []int{api.MsgNone, api.MsgPrepare, api.MsgWrite, api.MsgBeat, api.MsgSettle, api.MsgSettled, api.MsgAsk, api.MsgAnswer,
		api.MsgAnswer + 1, -1, -api.MsgRefuse, 256 + api.MsgRefuse, 1<<32 + api.MsgPromise, math.MaxInt, math.MinInt} {
		for _, q := range stages(t) {
			for _, from := range []int{1, 4, 2} {
				for _, epoch := range []uint64{0, 4, 50} {
					for seq := range uint64(4) {
						m := full(kind, from)
						m.Epoch, m.Tag, m.Round = epoch, at(epoch, seq), seq
						deaf(t, q, m)
					}
				}
			}
		}
	}
}

// full: a message that has something in every field, whatever its kind.
func full(kind, from int) api.Msg {
	return api.Msg{
		Head: api.Head{Kind: kind, From: from, To: node, Shard: shard}, Epoch: 50, Tag: at(60, 61), Round: 62, Span: 63, Seen: 64, Value: []byte("full"),
		Peer: 65, Number: 66, Name: "name", Other: "other", Amount: 67, Call: api.Call{Life: 68, ID: 69}, Op: 70, Client: 71, State: 72, Bad: api.BadFunds,
	}
}

// P10.3: fields that a kind does not use are not looked at, and are not told on.
func TestOnlyItsFields(t *testing.T) {
	q := three()
	q.Start(4, own(at(0, 0), "x"), 5)
	m := full(api.MsgPromise, 4)
	m.Epoch = 4
	hears(t, q, m, "write 4.1 full /5 >1,4,2", `writing epoch 4 seen 0 chosen 0.0 "" round 0/0`)
	for _, from := range []int{4, 2} {
		m = full(api.MsgWrote, from)
		m.Tag = at(4, 1)
		sends(t, "wrote", q.Hear(m, 5), "")
	}
	is(t, "wrote", q, `ready holds epoch 4 seen 0 chosen 4.1 "full" round 0/0`)
	sends(t, "Tick", q.Tick(5), "beat 4.1 /5 >1,4,2")
	for _, from := range []int{4, 2} {
		m = full(api.MsgBeaten, from)
		m.Epoch, m.Round = 4, 1
		sends(t, "beaten", q.Hear(m, 5), "")
	}
	is(t, "beaten", q, `ready holds epoch 4 seen 0 chosen 4.1 "full" round 1/1`)
	m = full(api.MsgRefuse, 4)
	m.Epoch = 4
	hears(t, q, m, "", `ready holds epoch 4 seen 64 chosen 4.1 "full" round 1/1`)
	m.From = 2
	hears(t, q, m, "", `idle epoch 0 seen 64 chosen 0.0 "" round 0/0`)
}

// P10.3: promises of another epoch do not count, nor a second one of a copy, nor one of the own copy.
func TestPromise(t *testing.T) {
	q := five()
	sends(t, "Start", q.Start(6, own(at(0, 0), "x"), 5), "prepare 6 >4,0,7,2")
	deaf(t, q, promise(4, 5, at(5, 5), "y"), promise(0, 7, at(5, 5), "y"), promise(7, 0, at(5, 5), "y"), promise(1, 6, at(5, 5), "y"))
	deaf(t, q, promise(7, 6, at(2, 1), "first"))
	for range 3 {
		deaf(t, q, promise(7, 6, at(5, 5), "second"))
	}
	sends(t, "Tick", q.Tick(5), "prepare 6 >4,0,7,2")
	hears(t, q, promise(2, 6, at(2, 0), "z"), "write 6.1 first /5 >4,0,1,7,2", `writing epoch 6 seen 0 chosen 0.0 "" round 0/0`)
	deaf(t, q, promise(0, 6, at(9, 9), "late"), promise(4, 6, at(9, 9), "late"))
	sends(t, "Tick", q.Tick(5), "write 6.1 first /5 >4,0,1,7,2")
}

// P10.4: the value of the greatest tag, by epoch and then seq; of equal ones the first that was counted, and the own copy is the first of all.
func TestTakesUp(t *testing.T) {
	for _, c := range []struct {
		own, one, two api.Tag
		want          string
	}{
		{at(0, 0), at(0, 0), at(0, 0), "own"},
		{at(3, 2), at(3, 2), at(3, 2), "own"},
		{at(3, 2), at(3, 3), at(3, 3), "one"},
		{at(3, 2), at(3, 1), at(3, 3), "two"},
		{at(3, 2), at(3, 3), at(3, 4), "two"},
		{at(3, 2), at(3, 4), at(3, 3), "one"},
		{at(3, 2), at(2, 9), at(1, 99), "own"},
		{at(3, 2), at(4, 0), at(3, 9), "one"},
		{at(3, 9), at(3, 10), at(4, 1), "two"},
		{at(3, 9), at(5, 1), at(4, 9), "one"},
		{at(0, 0), at(0, 1), at(0, 0), "one"},
		{at(0, 0), at(math.MaxUint64, 0), at(math.MaxUint64, 1), "two"},
		{at(1<<40, 1<<40), at(1<<40, 1<<40-1), at(1<<40-1, math.MaxUint64), "own"},
		{at(3, 2), at(6, 1), at(9, 1), "two"},
	} {
		for _, from := range [][2]int{{4, 2}, {2, 4}, {0, 7}} {
			q := five()
			q.Start(6, own(c.own, "own"), 5)
			deaf(t, q, promise(from[0], 6, c.one, "one"))
			hears(t, q, promise(from[1], 6, c.two, "two"), "write 6.1 "+c.want+" /5 >4,0,1,7,2", `writing epoch 6 seen 0 chosen 0.0 "" round 0/0`)
		}
	}
}

// P10.4: an empty value of the greatest tag is taken up, too.
func TestTakesUpNothing(t *testing.T) {
	q := three()
	q.Start(6, own(at(3, 1), "own"), 5)
	hears(t, q, promise(4, 6, at(3, 2), ""), "write 6.1  /5 >1,4,2", `writing epoch 6 seen 0 chosen 0.0 "" round 0/0`)
}

// P10.3: only a wrote of the very tag counts, and only while it writes, once a copy; the own copy must answer like any other.
func TestWrote(t *testing.T) {
	q := five()
	q.Start(6, own(at(0, 0), "x"), 5)
	deaf(t, q, wrote(4, 6, 1), wrote(0, 6, 1), wrote(7, 6, 1), wrote(4, 0, 0), wrote(0, 0, 0), wrote(7, 0, 0))
	q.Hear(promise(4, 6, at(0, 0), "y"), 5)
	q.Hear(promise(0, 6, at(0, 0), "y"), 5)
	is(t, "writing", q, `writing epoch 6 seen 0 chosen 0.0 "" round 0/0`)
	for _, from := range []int{4, 0, 1, 7, 2} {
		deaf(t, q, wrote(from, 6, 0), wrote(from, 6, 2), wrote(from, 5, 1), wrote(from, 7, 1), wrote(from, 0, 0))
	}
	sends(t, "Tick", q.Tick(5), "write 6.1 x /5 >4,0,1,7,2")
	deaf(t, q, wrote(7, 6, 1), wrote(7, 6, 1), wrote(7, 6, 1))
	sends(t, "Tick", q.Tick(5), "write 6.1 x /5 >4,0,1,2")
	deaf(t, q, wrote(4, 6, 1))
	sends(t, "Tick", q.Tick(5), "write 6.1 x /5 >0,1,2")
	hears(t, q, wrote(2, 6, 1), "", `ready holds epoch 6 seen 0 chosen 6.1 "x" round 0/0`)
	deaf(t, q, wrote(0, 6, 1), wrote(1, 6, 1), wrote(0, 6, 2), wrote(1, 6, 2), wrote(2, 6, 2))
	sends(t, "Tick", q.Tick(5), "beat 6.1 /5 >4,0,1,7,2")
	proposes(t, q, "y", "write 6.2 y /5 >4,0,1,7,2", true)
	deaf(t, q, wrote(0, 6, 1), wrote(1, 6, 1), wrote(4, 6, 1), wrote(4, 6, 2), wrote(0, 6, 2))
	hears(t, q, wrote(1, 6, 2), "", `ready holds epoch 6 seen 0 chosen 6.2 "y" round 1/0`)
}

// P10.3: Seen becomes the greatest Seen of all refuses, whatever the phase and the epoch that is refused.
func TestSeen(t *testing.T) {
	for what, q := range stages(t) {
		phase, holds := q.Phase(), q.Holds()
		for _, c := range []struct{ epoch, seen, want uint64 }{
			{1, 8, 9}, {1, 9, 9}, {1, 10, 10}, {0, 11, 11}, {99, 12, 12}, {99, 3, 12}, {4, 3, 12}, {4, 4, 12}, {3, api.MaxNumber, api.MaxNumber}, {5, math.MaxUint64, math.MaxUint64}, {5, 20, math.MaxUint64},
		} {
			if what == "idle" && c.epoch == 4 {
				continue
			}
			for _, from := range []int{1, 4, 2} {
				sends(t, what, q.Hear(refuse(from, c.epoch, c.seen), 5), "")
			}
			if q.Seen() != c.want || q.Phase() != phase || q.Holds() != holds {
				t.Errorf("%s: refuse of %d, Seen %d: %s", what, c.epoch, c.seen, state(q))
			}
		}
	}
}

// P10.3: who does not hold is idle at the first refuse of its epoch whose Seen is above it.
func TestRefuseRunning(t *testing.T) {
	for _, from := range []int{1, 4, 2} {
		for _, what := range []string{"preparing", "writing"} {
			q := stages(t)[what]
			deaf(t, q, refuse(from, 4, 4), refuse(from, 4, 0), refuse(from, 3, 9), refuse(from, 5, 9), refuse(from, 0, 9))
			hears(t, q, refuse(from, 4, 5), "", `idle epoch 0 seen 9 chosen 0.0 "" round 0/0`)
		}
	}
}

// P10.3: who holds is idle as soon as those that have not refused are no majority; one copy counts once in the epoch, over all its writes and rounds.
func TestRefuseHolding(t *testing.T) {
	for _, copies := range [][]int{{1}, {0, 1, 7}, {4, 0, 1, 7, 2}, {4, 0, 1, 7, 2, 3, 8}} {
		q := quorum.New(node, shard, copies)
		hold(t, q, copies, 6, "x")
		need := (len(copies) + 1) / 2
		for _, from := range copies[:need-1] {
			for range 3 {
				sends(t, "refuse", q.Hear(refuse(from, 6, 7), 5), "")
			}
			if !q.Holds() || q.Epoch() != 6 {
				t.Fatalf("%v: refused by %d: %s", copies, from, state(q))
			}
			goOn(t, q, copies)
		}
		hears(t, q, refuse(copies[need-1], 6, 7), "", `idle epoch 0 seen 7 chosen 0.0 "" round 0/0`)
	}
}

// goOn has one more value chosen and one more round done.
func goOn(t *testing.T, q *quorum.Quorum, copies []int) {
	t.Helper()
	tag, _ := q.Chosen()
	begun, _ := q.Round()
	if _, ok := q.Propose([]byte("more"), 5); !ok {
		t.Fatalf("not proposed: %s", state(q))
	}
	q.Tick(5)
	for _, from := range copies {
		q.Hear(wrote(from, tag.Epoch, tag.Seq+1), 5)
		q.Hear(beaten(from, tag.Epoch, begun+1), 5)
	}
	now, _ := q.Chosen()
	if _, done := q.Round(); now.Seq != tag.Seq+1 || done != begun+1 {
		t.Fatalf("it does not go on: %s", state(q))
	}
}

// P10.3: refuses that do not count: of another epoch, or with a Seen that is not above.
func TestRefuseHoldingNot(t *testing.T) {
	for _, what := range []string{"ready", "writing on"} {
		q := stages(t)[what]
		for _, from := range []int{1, 4, 2} {
			deaf(t, q, refuse(from, 4, 4), refuse(from, 4, 3), refuse(from, 3, 9), refuse(from, 5, 9), refuse(from, 0, 9))
		}
		deaf(t, q, refuse(2, 4, 9)) // the one that has been counted
		hears(t, q, refuse(1, 4, 5), "", `idle epoch 0 seen 9 chosen 0.0 "" round 0/0`)
	}
}

// P10.3: a refuse that came while it did not hold has ended it: of the next epoch nobody has refused yet.
func TestRefuseCountsInItsEpoch(t *testing.T) {
	q := three()
	hold(t, q, []int{1, 4, 2}, 4, "x")
	q.Hear(refuse(4, 4, 5), 5)
	hold(t, q, []int{1, 4, 2}, 7, "y")
	hears(t, q, refuse(2, 7, 8), "", `ready holds epoch 7 seen 8 chosen 7.1 "y" round 0/0`)
	hears(t, q, refuse(4, 7, 8), "", `idle epoch 0 seen 8 chosen 0.0 "" round 0/0`)
}

// P10.3: only a beaten of the epoch and of the round under way counts, once a copy, ready or writing.
func TestBeaten(t *testing.T) {
	q := five()
	hold(t, q, []int{4, 0, 1, 7, 2}, 6, "x")
	for _, from := range []int{4, 0, 1, 7, 2} {
		deaf(t, q, beaten(from, 6, 0), beaten(from, 6, 1))
	}
	sends(t, "Tick", q.Tick(5), "beat 6.1 /5 >4,0,1,7,2")
	for _, from := range []int{4, 0, 1, 7, 2} {
		deaf(t, q, beaten(from, 6, 0), beaten(from, 6, 2), beaten(from, 5, 1), beaten(from, 7, 1))
	}
	sends(t, "Tick", q.Tick(5), "beat 6.1 /5 >4,0,1,7,2")
	deaf(t, q, beaten(1, 6, 1), beaten(1, 6, 1), beaten(1, 6, 1))
	sends(t, "Tick", q.Tick(5), "beat 6.1 /5 >4,0,7,2")
	proposes(t, q, "y", "write 6.2 y /5 >4,0,1,7,2", true)
	deaf(t, q, beaten(2, 6, 1), wrote(4, 6, 2))
	sends(t, "Tick", q.Tick(5), "write 6.2 y /5 >0,1,7,2; beat 6.1 /5 >4,0,7")
	hears(t, q, beaten(4, 6, 1), "", `writing holds epoch 6 seen 0 chosen 6.1 "x" round 1/1`)
	deaf(t, q, beaten(0, 6, 1), beaten(7, 6, 1), beaten(0, 6, 2), beaten(7, 6, 2), beaten(1, 6, 2))
	sends(t, "Tick", q.Tick(5), "write 6.2 y /5 >0,1,7,2; beat 6.2 /5 >4,0,1,7,2")
	deaf(t, q, beaten(0, 6, 1), beaten(7, 6, 1), beaten(1, 6, 1))
	deaf(t, q, beaten(0, 6, 2), beaten(7, 6, 2))
	hears(t, q, beaten(1, 6, 2), "", `writing holds epoch 6 seen 0 chosen 6.1 "x" round 2/2`)
}

// P10.6: an idle one says nothing; no beats before it holds; prepares to all others, promised or not; a ready one writes nothing.
func TestTick(t *testing.T) {
	for what, want := range map[string]string{
		"idle":       "",
		"preparing":  "prepare 4 >4,2",
		"writing":    "write 4.1 x /5 >1,4",
		"ready":      "beat 4.1 /5 >4,2",
		"writing on": "write 4.2 w /5 >1,4; beat 4.2 /5 >1,4",
	} {
		q := stages(t)[what]
		was := state(q)
		for range 3 {
			sends(t, what, q.Tick(5), want)
			is(t, what, q, was)
		}
	}
	q := five()
	q.Start(6, own(at(0, 0), "x"), 5)
	deaf(t, q, promise(0, 6, at(0, 0), "y"))
	sends(t, "one has promised", q.Tick(5), "prepare 6 >4,0,7,2")
}

// P10.6: rounds are counted from 1 on, one behind the other, each only behind the one ahead.
func TestRounds(t *testing.T) {
	q := three()
	hold(t, q, []int{1, 4, 2}, 4, "x")
	for round := uint64(1); round < 30; round++ {
		for range 3 {
			sends(t, "Tick", q.Tick(5), "beat 4."+str(round)+" /5 >1,4,2")
			is(t, "Tick", q, `ready holds epoch 4 seen 0 chosen 4.1 "x" round `+str(round)+`/`+str(round-1))
		}
		q.Hear(beaten(4, 4, round), 5)
		sends(t, "Tick", q.Tick(5), "beat 4."+str(round)+" /5 >1,2")
		q.Hear(beaten(1, 4, round), 5)
		is(t, "done", q, `ready holds epoch 4 seen 0 chosen 4.1 "x" round `+str(round)+`/`+str(round))
	}
}
