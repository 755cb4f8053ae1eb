package replica_test

import (
	"math"
	"testing"

	"tally/api"
	"tally/replica"
)

// copyOf: one with promised 5, the tag (4, 3), the value "v" and that wait.
func copyOf(wait int) *replica.Replica {
	return replica.Load(api.Stored{Promised: 5, Tag: api.Tag{Epoch: 4, Seq: 3}, Value: []byte("v")}, wait)
}

// P9.4: a prepare below, at and above what is promised, while others are kept out and while they are not. It never keeps anybody out itself, and is never taken.
func TestPrepare(t *testing.T) {
	tag := api.Tag{Epoch: 4, Seq: 3}
	for _, c := range []struct {
		wait   int
		epoch  uint64
		answer api.Msg
		flags  string
		state  string
	}{
		{0, 0, refuse(0, 5), "", `5 (4, 3) "v" wait 0`},
		{0, 4, refuse(4, 5), "", `5 (4, 3) "v" wait 0`},
		{0, 5, promise(5, tag, "v"), "", `5 (4, 3) "v" wait 0`},
		{0, 6, promise(6, tag, "v"), "C", `6 (4, 3) "v" wait 0`},
		{0, math.MaxUint64, promise(math.MaxUint64, tag, "v"), "C", `18446744073709551615 (4, 3) "v" wait 0`},
		{1, 4, refuse(4, 5), "", `5 (4, 3) "v" wait 1`},
		{1, 5, promise(5, tag, "v"), "", `5 (4, 3) "v" wait 1`},
		{1, 6, refuse(6, 5), "", `5 (4, 3) "v" wait 1`},
		{9, math.MaxUint64, refuse(math.MaxUint64, 5), "", `5 (4, 3) "v" wait 9`},
	} {
		r := copyOf(c.wait)
		hears(t, r, prepare(c.epoch), c.answer, c.flags)
		is(t, "prepare", r, c.state)
	}
}

// P9.4: a write below what is promised changes nothing, not the wait either.
func TestWriteRefused(t *testing.T) {
	for _, wait := range []int{0, 2} {
		for _, epoch := range []uint64{0, 4} {
			r := copyOf(wait)
			was := state(r)
			hears(t, r, write(epoch, 9, "w", 7), refuse(epoch, 5), "")
			is(t, "refused", r, was)
		}
	}
}

// P9.4: a write is taken whether or not others are kept out, and its span is the wait from then on, be it more or less.
func TestWriteTaken(t *testing.T) {
	for _, wait := range []int{0, 2, 50} {
		r := copyOf(wait)
		hears(t, r, write(5, 1, "w", 7), wrote(5, 1), "TC")
		is(t, "of the epoch", r, `5 (5, 1) "w" wait 7`)
		r = copyOf(wait)
		hears(t, r, write(6, 0, "", 0), wrote(6, 0), "TC")
		is(t, "of a later epoch", r, `6 (6, 0) "" wait 0`)
		hears(t, r, write(6, 2, "x", -1), wrote(6, 2), "TC")
		is(t, "of a later seq", r, `6 (6, 2) "x" wait 0`)
		hears(t, r, write(6, 1, "y", 3), api.Msg{}, "T")
		is(t, "of an earlier seq", r, `6 (6, 2) "x" wait 3`)
		hears(t, r, write(6, 2, "z", math.MinInt), wrote(6, 2), "T")
		is(t, "of that very one", r, `6 (6, 2) "x" wait 0`)
		hears(t, r, write(math.MaxUint64, math.MaxUint64, "m", math.MaxInt), wrote(math.MaxUint64, math.MaxUint64), "TC")
	}
}

// P9.4: tags are ordered by their epochs, then by their seqs. (A tag above what is promised can only be loaded.)
func TestTags(t *testing.T) {
	load := func() *replica.Replica {
		return replica.Load(api.Stored{Promised: 2, Tag: api.Tag{Epoch: 6, Seq: 5}, Value: []byte("v")}, 0)
	}
	for _, c := range []struct {
		epoch, seq uint64
		answer     api.Msg
		flags      string
		state      string
	}{
		{2, 9, api.Msg{}, "T", `2 (6, 5) "v" wait 1`},
		{3, 9, api.Msg{}, "TC", `3 (6, 5) "v" wait 1`},
		{6, 4, api.Msg{}, "TC", `6 (6, 5) "v" wait 1`},
		{6, 5, wrote(6, 5), "TC", `6 (6, 5) "v" wait 1`},
		{6, 6, wrote(6, 6), "TC", `6 (6, 6) "w" wait 1`},
		{7, 0, wrote(7, 0), "TC", `7 (7, 0) "w" wait 1`},
		{7, 9, wrote(7, 9), "TC", `7 (7, 9) "w" wait 1`},
		{math.MaxUint64, 0, wrote(math.MaxUint64, 0), "TC", `18446744073709551615 (18446744073709551615, 0) "w" wait 1`},
	} {
		r := load()
		hears(t, r, write(c.epoch, c.seq, "w", 1), c.answer, c.flags)
		is(t, "a tag", r, c.state)
	}
	r := replica.New([]byte("first"))
	hears(t, r, write(0, 0, "w", 1), wrote(0, 0), "T")
	is(t, "the tag (0, 0)", r, `0 (0, 0) "first" wait 1`)
}

// P9.4: a beat below what is promised is refused, another one taken; it changes no tag and no value.
func TestBeat(t *testing.T) {
	for _, wait := range []int{0, 2, 50} {
		for _, epoch := range []uint64{0, 4} {
			r := copyOf(wait)
			was := state(r)
			hears(t, r, beat(epoch, 9, 7), refuse(epoch, 5), "")
			is(t, "refused", r, was)
		}
		r := copyOf(wait)
		hears(t, r, beat(5, 9, 7), beaten(5, 9), "T")
		is(t, "of the epoch", r, `5 (4, 3) "v" wait 7`)
		hears(t, r, beat(5, 8, 1), beaten(5, 8), "T")
		is(t, "of an earlier round", r, `5 (4, 3) "v" wait 1`)
		hears(t, r, beat(6, 0, 0), beaten(6, 0), "TC")
		is(t, "of a later epoch", r, `6 (4, 3) "v" wait 0`)
		hears(t, r, beat(math.MaxUint64, math.MaxUint64, -3), beaten(math.MaxUint64, math.MaxUint64), "TC")
		is(t, "of the greatest", r, `18446744073709551615 (4, 3) "v" wait 0`)
		hears(t, r, beat(math.MaxUint64, 1, math.MaxInt), beaten(math.MaxUint64, 1), "T")
		is(t, "with the greatest span", r, `18446744073709551615 (4, 3) "v" wait 9223372036854775807`)
	}
}

// P9.4: all other kinds, and numbers that are no kind, do nothing, whatever stands in their fields.
func TestOthers(t *testing.T) {
	for _, kind := range []int{api.MsgNone, api.MsgPromise, api.MsgRefuse, api.MsgWrote, api.MsgBeaten, api.MsgSettle, api.MsgSettled, api.MsgAsk, api.MsgAnswer,
		api.MsgAnswer + 1, -1, -api.MsgWrite, 256 + api.MsgPrepare, 1<<32 + api.MsgBeat, math.MaxInt, math.MinInt} {
		for _, wait := range []int{0, 2} {
			r := copyOf(wait)
			was := state(r)
			hears(t, r, of(kind), api.Msg{}, "")
			hears(t, r, full(kind), api.Msg{}, "")
			is(t, "another kind", r, was)
		}
	}
}

// full: a message that has something in every field, whatever its kind.
func full(kind int) api.Msg {
	return api.Msg{
		Head: api.Head{Kind: kind, From: 7, To: -4, Shard: 99}, Epoch: 50, Tag: api.Tag{Epoch: 60, Seq: 61}, Round: 62, Span: 63, Seen: 64, Value: []byte("full"),
		Peer: 65, Number: 66, Name: "name", Other: "other", Amount: 67, Call: api.Call{Life: 68, ID: 69}, Op: 70, Client: 71, State: 72, Bad: api.BadFunds,
	}
}

// P9.4: an answer goes back where the message came from, and has nothing of it but what is named; fields that a kind does not use are not looked at.
func TestOnlyWhatIsNamed(t *testing.T) {
	head := func(m api.Msg) api.Msg {
		m.From, m.To, m.Shard = -4, 7, 99
		return m
	}
	tag := api.Tag{Epoch: 4, Seq: 3}
	hears(t, copyOf(0), full(api.MsgPrepare), head(promise(50, tag, "v")), "C")
	hears(t, copyOf(1), full(api.MsgPrepare), head(refuse(50, 5)), "")
	hears(t, copyOf(0), full(api.MsgWrite), head(wrote(60, 61)), "TC")
	hears(t, copyOf(0), full(api.MsgBeat), head(beaten(50, 62)), "TC")

	m := full(api.MsgWrite)
	m.Tag.Epoch = 4
	hears(t, copyOf(0), m, head(refuse(4, 5)), "")
	m = full(api.MsgWrite)
	m.Epoch = 4
	hears(t, copyOf(0), m, head(wrote(60, 61)), "TC")
	for _, kind := range []int{api.MsgPrepare, api.MsgBeat} {
		m = full(kind)
		m.Epoch = 4
		hears(t, copyOf(0), m, head(refuse(4, 5)), "")
	}
}

// P9.4: who sends is not looked at: the node itself is heard like any other.
func TestFromItself(t *testing.T) {
	m := write(5, 1, "w", 2)
	m.From = m.To
	want := wrote(5, 1)
	want.To = want.From
	hears(t, copyOf(3), m, want, "TC")
}

// P9.4: all messages of small numbers at all copies of small numbers, held against the chapter's plain telling.
func TestAllSmall(t *testing.T) {
	each := func(c model) {
		for _, m := range small() {
			r, now := c.load(), c
			answer, flags := now.hear(m)
			hears(t, r, m, answer, flags)
			if state(r) != now.state() {
				t.Fatalf("%s hears %+v: %s, want %s", c.state(), m, state(r), now.state())
			}
		}
	}
	for p := range uint64(4) {
		for e := range uint64(4) {
			for q := range uint64(3) {
				for wait := range 3 {
					each(model{p, e, q, "v", wait})
				}
			}
		}
	}
}

// small: messages of small numbers, of all kinds that there are and two more.
func small() []api.Msg {
	var out []api.Msg
	for kind := api.MsgNone; kind <= api.MsgAnswer+1; kind++ {
		for e := range uint64(5) {
			for q := range uint64(4) {
				for span := -1; span < 3; span++ {
					m := of(kind)
					m.Epoch, m.Round, m.Tag, m.Span, m.Value = e, q, api.Tag{Epoch: e, Seq: q}, span, []byte("w")
					out = append(out, m)
				}
			}
		}
	}
	return out
}
