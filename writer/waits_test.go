package writer_test

import (
	"math"
	"testing"

	"tally/api"
)

// P14.4, P14.5: a payment: one write, and its answer when that is chosen, not ahead.
func TestSubmit(t *testing.T) {
	d := holder(t)
	b := first(d.c)
	ask := d.submit(0, 5, 4)
	sends(d, "the write", d.hear(ask), d.proposed(2, d.paid(b, ask))...)
	d.stands("the write", api.PhaseWriting, true, 1, 8)
	sends(d, "chosen", d.stored(), d.answer(ask, api.OK))
	b = d.paid(b, ask)
	d.is("chosen", b)

	// Told at once: nothing changes.
	again := d.submit(0, 5, 9)
	again.From, again.Call = 0, api.Call{Life: 1, ID: 1}
	sends(d, "again", d.hear(again), d.answer(again, api.OK))
	sends(d, "an older one", d.hear(d.submit(0, 4, 1)), d.answer(d.submit(0, 4, 1), api.BadOld))
	for _, client := range []int{-1, 3, 8, math.MaxInt, math.MinInt} {
		sends(d, "no client", d.hear(d.submit(client, 6, 1)), d.answer(d.submit(client, 6, 1), api.BadNumber))
	}
	sends(d, "number 0", d.hear(d.submit(1, 0, 1)), d.answer(d.submit(1, 0, 1), api.BadNumber))
	sends(d, "a number above all", d.hear(d.submit(1, api.MaxNumber+1, 1)), d.answer(d.submit(1, api.MaxNumber+1, 1), api.BadNumber))
	d.is("told at once", b)
	d.stands("told at once", api.PhaseReady, true, 1, 8)

	// A refusal is written, too.
	for i, x := range []struct {
		turn func(m *api.Msg)
		bad  api.Errno
	}{
		{func(m *api.Msg) { m.Name = "nobody" }, api.BadAccount},
		{func(m *api.Msg) { m.Name = d.there[0] }, api.BadAccount},
		{func(m *api.Msg) { m.Other = "" }, api.BadAccount},
		{func(m *api.Msg) { m.Amount = 0 }, api.BadZero},
		{func(m *api.Msg) { m.Other = m.Name }, api.BadSame},
		{func(m *api.Msg) { m.Amount = 161 }, api.BadSupply},
		{func(m *api.Msg) { m.Amount = 160 }, api.BadFunds},
	} {
		ask := d.submit(0, 6+uint64(i), 1)
		x.turn(&ask)
		b = d.paid(b, ask)
		sends(d, "the write", d.hear(ask), d.proposed(3+uint64(i), b)...)
		sends(d, "refused", d.stored(), d.answer(ask, x.bad))
		sends(d, "refused again", d.hear(ask), d.answer(ask, x.bad))
		d.is("refused", b)
	}
}

// P14.5: payments to another shard, up to the queue's end.
func TestQueue(t *testing.T) {
	d := holder(t)
	b := first(d.c)
	for number := uint64(1); number <= 4; number++ {
		ask := d.pay(0, number, d.there[0], 2)
		b = d.paid(b, ask)
		sends(d, "the write", d.hear(ask), d.proposed(1+number, b)...)
		bad := api.OK
		if number == 4 {
			bad = api.BadQueue
		}
		sends(d, "chosen", d.stored(), d.answer(ask, bad))
	}
	ask := d.status(1, 0, 4)
	d.hear(ask)
	sends(d, "refused", d.alive(), d.state(ask, api.StateRefused, api.BadQueue))
}

// P14.5: what waits while a write is under way is taken one by one, each when the write ahead is chosen: credits by their source, settleds by their peer, asks as they came.
func TestOrder(t *testing.T) {
	d := holder(t)
	b := d.queue(d.below[0], d.there[0])
	seq := d.tag.Seq + 1
	now := d.submit(2, 1, 1)
	b = d.paid(b, now)
	sends(d, "under way", d.hear(now), d.proposed(seq, b)...)
	late, early := d.submit(1, 9, 1), d.submit(0, 7, 1)
	low, high := d.toll(0, 1, 5), d.toll(2, 1, 6)
	for _, m := range []api.Msg{late, early, d.release(2, 1), d.release(0, 1), high, low} {
		sends(d, "it waits", d.hear(m))
	}
	previous := []api.Msg{d.answer(now, api.OK)} // what the deed that is under way is answered with
	for _, x := range []struct {
		what string
		then func() api.Book
		told []api.Msg
	}{
		{"credit 0", func() api.Book { return d.credited(b, low) }, []api.Msg{d.settled(low, 1)}},
		{"credit 2", func() api.Book { return d.credited(b, high) }, []api.Msg{d.settled(high, 1)}},
		{"settled 0", func() api.Book { return d.released(b, 0, 1) }, nil},
		{"settled 2", func() api.Book { return d.released(b, 2, 1) }, nil},
		{"the ask that came first", func() api.Book { return d.paid(b, late) }, []api.Msg{d.answer(late, api.OK)}},
		{"the other", func() api.Book { return d.paid(b, early) }, []api.Msg{d.answer(early, api.OK)}},
	} {
		b = x.then()
		seq++
		sends(d, x.what, d.stored(), append(previous, d.proposed(seq, b)...)...)
		previous = x.told
	}
	sends(d, "the last", d.stored(), previous...)
	d.is("all", b)
	d.stands("all", api.PhaseReady, true, 1, 8)
}

// P14.5: what changes nothing is answered at once, and the next one is taken; all in one go.
func TestAllAtOnce(t *testing.T) {
	d := holder(t)
	b := first(d.c)
	pay := d.pay(0, 7, d.there[0], 1)
	b = d.paid(b, pay)
	d.hear(pay)
	d.stored()
	bad := d.toll(0, 1, 1)
	bad.Name = d.there[0]
	none := d.toll(2, 1, 0)
	now := d.release(2, 1)
	b = d.released(b, 2, 1)
	sends(d, "under way", d.hear(now), d.proposed(3, b)...)
	again, next, last := d.submit(0, 7, 5), d.submit(1, 1, 2), d.submit(2, 1, 1)
	for _, m := range []api.Msg{d.submit(0, 6, 1), again, d.submit(9, 1, 1), next, last, none, bad, d.release(2, 5)} {
		sends(d, "it waits", d.hear(m))
	}
	want := []api.Msg{d.settled(bad, 0), d.settled(none, 0), d.answer(d.submit(0, 6, 1), api.BadOld), d.answer(again, api.OK), d.answer(d.submit(9, 1, 1), api.BadNumber)}
	b = d.paid(b, next)
	sends(d, "all but the last", d.stored(), append(want, d.proposed(4, b)...)...)
	b = d.paid(b, last)
	sends(d, "the last", d.stored(), append([]api.Msg{d.answer(next, api.OK)}, d.proposed(5, b)...)...)
	sends(d, "chosen", d.stored(), d.answer(last, api.OK))
	d.is("all", b)
}

// P14.4: an ask of a client and number that waits already takes the place of that one; one whose write is under way waits like any other.
func TestAskAgain(t *testing.T) {
	d := busy(t)
	b := d.paid(first(d.c), d.submit(2, 1, 1))
	one, two := d.submit(0, 1, 1), d.submit(1, 1, 1)
	again := d.submit(0, 1, 3)
	again.From, again.Call = 2, api.Call{Life: 9, ID: 9}
	same := d.submit(2, 1, 1)
	same.Call.ID = 77
	other := d.submit(0, 2, 1)
	for _, m := range []api.Msg{one, two, same, other, again} {
		sends(d, "it waits", d.hear(m))
	}
	b = d.paid(b, again)
	sends(d, "in the place of the first", d.stored(), append([]api.Msg{d.answer(d.submit(2, 1, 1), api.OK)}, d.proposed(3, b)...)...)
	b = d.paid(b, two)
	sends(d, "the second", d.stored(), append([]api.Msg{d.answer(again, api.OK)}, d.proposed(4, b)...)...)
	b = d.paid(b, other)
	sends(d, "the one that was under way, and the next", d.stored(), append([]api.Msg{d.answer(two, api.OK), d.answer(same, api.OK)}, d.proposed(5, b)...)...)
	sends(d, "the last", d.stored(), d.answer(other, api.OK))
	d.is("all", b)
}

// P14.4: at most MaxAsks wait; the others are dropped, but one that takes another's place is not.
func TestMaxAsks(t *testing.T) {
	d := busy(t)
	for n := range uint64(api.MaxAsks) {
		sends(d, "it waits", d.hear(d.submit(0, n+1, 1)))
	}
	sends(d, "one too many", d.hear(d.submit(1, 1, 1)))
	again := d.submit(0, api.MaxAsks, 0)
	again.Call.ID = 999
	sends(d, "in the place of another", d.hear(again))
	// The lesser numbers are judged first, so each is written.
	told := d.answer(d.submit(2, 1, 1), api.OK)
	b := d.paid(first(d.c), d.submit(2, 1, 1))
	for n := range uint64(api.MaxAsks) {
		ask, bad := d.submit(0, n+1, 1), api.OK
		if n == api.MaxAsks-1 {
			ask, bad = again, api.BadZero
		} else if n >= 9 { // client 2 has paid the first of ten
			bad = api.BadFunds
		}
		b = d.paid(b, ask)
		sends(d, "one behind the other", d.stored(), append([]api.Msg{told}, d.proposed(3+n, b)...)...)
		told = d.answer(ask, bad)
	}
	sends(d, "the last", d.stored(), told)
	d.stands("all", api.PhaseReady, true, 1, 8)
	sends(d, "nothing waits", d.alive())
	sends(d, "the dropped one comes again", d.hear(d.submit(1, 1, 1)), d.proposed(19, d.paid(b, d.submit(1, 1, 1)))...)
}

// P14.4: there is room again for each ask that has been taken.
func TestRoomAgain(t *testing.T) {
	d := busy(t)
	for n := range uint64(api.MaxAsks) {
		d.hear(d.submit(0, n+1, 1))
	}
	d.stored()
	sends(d, "the seventeenth", d.hear(d.submit(1, 1, 1)))
	sends(d, "one too many", d.hear(d.submit(1, 2, 1)))
	for range api.MaxAsks {
		d.stored()
	}
	sends(d, "the last", d.stored(), d.answer(d.submit(1, 1, 1), api.BadFunds))
	d.stands("all", api.PhaseReady, true, 1, 8)
}

// P14.4: asks that are neither to submit nor to read are nothing.
func TestOtherAsks(t *testing.T) {
	for _, op := range []int{api.CallNone, api.CallStatus + 1, -1, math.MaxInt} {
		d := holder(t)
		m := d.submit(0, 1, 1)
		m.Op = op
		sends(d, "no such ask", d.hear(m))
		d.stands("no such ask", api.PhaseReady, true, 1, 8)
		sends(d, "nothing waits", d.alive())
	}
}

// P14.4: a balance and a status are answered when a round is done that began behind their coming.
func TestReads(t *testing.T) {
	d := holder(t)
	has, what := d.balance(1, d.here[0]), d.status(2, 0, 1)
	sends(d, "it waits", d.hear(has))
	sends(d, "the round begins", d.tick(), d.beats(1, 1, 9, d.copies...)...)
	sends(d, "too late for this round", d.hear(what))
	sends(d, "sent again, it is the same round", d.tick(), d.beats(1, 1, 9, d.copies...)...)
	sends(d, "done", d.done(), d.amount(has, 10))
	sends(d, "too late, once more", d.hear(d.beaten(d.others[1])))
	sends(d, "the next", d.alive(), d.state(what, api.StateNone, api.OK))
	sends(d, "nothing waits", d.alive())
}

// P14.4: reads are answered in the order of their coming, with what the book says when the round is done.
func TestReadsTell(t *testing.T) {
	d := holder(t)
	asks := []api.Msg{d.status(1, 1, 1), d.balance(2, d.here[0]), d.balance(3, "nobody"), d.balance(4, d.there[0]), d.status(5, 0, 1), d.status(6, 0, 2), d.status(7, 0, 3), d.status(8, 0, 4), d.status(9, 5, 1), d.status(10, -1, 1), d.status(11, 0, 0), d.balance(12, d.here[2])}
	for _, m := range asks {
		sends(d, "it waits", d.hear(m))
	}
	d.tick()
	// Payments while the round is under way: they are in the book when it is done.
	for _, m := range []api.Msg{d.pay(0, 2, d.there[0], 3), d.submit(0, 3, 11), d.pay(1, 1, d.there[1], 1)} {
		d.hear(m)
		d.stored()
	}
	next := d.submit(2, 1, 1)
	d.hear(next) // not chosen yet
	sends(d, "all", d.done(),
		d.state(asks[0], api.StatePending, api.OK), d.amount(asks[1], 10), d.answer(asks[2], api.BadAccount), d.answer(asks[3], api.BadAccount),
		d.state(asks[4], api.StateOld, api.OK), d.state(asks[5], api.StateOld, api.OK), d.state(asks[6], api.StateRefused, api.BadFunds), d.state(asks[7], api.StateNone, api.OK),
		d.state(asks[8], api.StateNone, api.OK), d.state(asks[9], api.StateNone, api.OK), d.state(asks[10], api.StateNone, api.OK), d.amount(asks[11], 6))
	d.stored()
	d.hear(d.release(2, 9))
	d.stored()
	sends(d, "again", d.hear(asks[0]))
	sends(d, "settled", d.alive(), d.state(asks[0], api.StateSettled, api.OK))
}

// P14.4: of each call of each node one read waits, the first; at most MaxAsks.
func TestReadsWait(t *testing.T) {
	d := holder(t)
	one := d.balance(1, d.here[0])
	again := d.status(1, 0, 1)
	elsewhere, life := one, one
	elsewhere.From, life.Call.Life = 3, 8
	for _, m := range []api.Msg{one, again, one, elsewhere, life} {
		sends(d, "it waits", d.hear(m))
	}
	sends(d, "done", d.alive(), d.amount(one, 10), d.amount(elsewhere, 10), d.amount(life, 10))

	var want []api.Msg
	for id := range uint64(api.MaxAsks + 2) {
		m := d.balance(id, d.here[0])
		d.hear(m)
		if id < api.MaxAsks {
			want = append(want, d.amount(m, 10))
		}
	}
	d.tick()
	// Those that belong to a round wait, too: there is no room yet.
	sends(d, "one too many", d.hear(d.balance(90, d.here[0])))
	sends(d, "asked again", d.hear(d.balance(1, d.here[0])))
	sends(d, "done", d.done(), want...)
	sends(d, "nothing waits", d.alive())
	sends(d, "room again", d.hear(d.balance(90, d.here[0])))
	sends(d, "done", d.alive(), d.amount(d.balance(90, d.here[0]), 10))
}

// P14.4: asks and reads have room of their own; reads wait whether or not a write is under way.
func TestRoomsApart(t *testing.T) {
	d := busy(t)
	for n := range uint64(api.MaxAsks) {
		d.hear(d.submit(0, n+1, 0))
		d.hear(d.balance(n, d.here[1]))
	}
	d.hear(d.toll(0, 1, 1))
	l := d.alive()
	if len(l) != api.MaxAsks {
		t.Fatalf("%d reads", len(l))
	}
	sends(d, "the first", l[:1], d.amount(d.balance(0, d.here[1]), 10))
	for range 2 {
		d.stored()
	}
	for n := range uint64(api.MaxAsks) {
		if l := d.stored(); len(l) == 0 || l[0].Bad != api.BadZero || l[0].Call.ID != n+1 {
			t.Fatalf("ask %d: %+v", n+1, l)
		}
	}
}
