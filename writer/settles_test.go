package writer_test

import (
	"math"
	"testing"

	"tally/api"
)

// P14.4, P14.5: a settle is credited, and then answered with the mark; one that is credited already at once.
func TestCredit(t *testing.T) {
	d := holder(t)
	b := first(d.c)
	one := d.toll(0, 1, 4)
	b = d.credited(b, one)
	sends(d, "the write", d.hear(one), d.proposed(2, b)...)
	sends(d, "chosen", d.stored(), d.settled(one, 1))
	d.is("chosen", b)
	one.From = 2
	sends(d, "again, from elsewhere", d.hear(one), d.settled(one, 1))
	sends(d, "number 0", d.hear(d.toll(0, 0, 4)), d.settled(d.toll(0, 0, 4), 1))
	sends(d, "number 0 of another source", d.hear(d.toll(2, 0, 4)), d.settled(d.toll(2, 0, 4), 0))
	for _, number := range []uint64{3, 4, api.MaxNumber, math.MaxUint64} {
		sends(d, "one too many", d.hear(d.toll(0, number, 4)))
		sends(d, "one too many of another source", d.hear(d.toll(2, number, 4)))
	}
	two := d.toll(0, 2, 1)
	b = d.credited(b, two)
	sends(d, "the next", d.hear(two), d.proposed(3, b)...)
	sends(d, "ahead of that", d.hear(one), d.settled(one, 1))
	sends(d, "chosen", d.stored(), d.settled(two, 2))
	sends(d, "the first again", d.hear(one), d.settled(one, 2))
	d.is("all", b)
	d.stands("all", api.PhaseReady, true, 1, 8)
}

// P14.4: a settle whose source is the shard itself, or no shard, is nothing.
func TestNoSource(t *testing.T) {
	d := holder(t)
	for _, source := range []int{own, -1, 3, 4, api.MaxShards, math.MaxInt, math.MinInt} {
		for _, number := range []uint64{0, 1} {
			sends(d, "no source", d.hear(d.toll(source, number, 1)))
		}
	}
	d.stands("no source", api.PhaseReady, true, 1, 8)
	d.is("no source", first(d.c))
}

// P14.5: a settle that cannot be credited is answered with the mark all the same.
func TestNoCredit(t *testing.T) {
	d := holder(t)
	for _, turn := range []func(m *api.Msg){
		func(m *api.Msg) { m.Name = "nobody" },
		func(m *api.Msg) { m.Name = d.there[0] },
		func(m *api.Msg) { m.Amount = 0 },
		func(m *api.Msg) { m.Amount = api.MaxSupply },
	} {
		m := d.toll(0, 1, 1)
		turn(&m)
		sends(d, "no credit", d.hear(m), d.settled(m, 0))
	}
	d.stands("no credit", api.PhaseReady, true, 1, 8)
}

// P14.4: of one source the later settle waits; when its turn comes it is judged by the book as it is then.
func TestLaterCredit(t *testing.T) {
	d := busy(t)
	b := d.paid(first(d.c), d.submit(2, 1, 1))
	one, later, other := d.toll(0, 1, 4), d.toll(0, 1, 3), d.toll(2, 1, 2)
	later.From = 2
	for _, m := range []api.Msg{one, other, later} {
		sends(d, "it waits", d.hear(m))
	}
	b = d.credited(b, later)
	sends(d, "the later one", d.stored(), append([]api.Msg{d.answer(d.submit(2, 1, 1), api.OK)}, d.proposed(3, b)...)...)
	sends(d, "the same while it is under way", d.hear(one))
	sends(d, "the next is above the mark as yet", d.hear(d.toll(0, 2, 1)))
	b = d.credited(b, other)
	sends(d, "judged now", d.stored(), append([]api.Msg{d.settled(later, 1), d.settled(one, 1)}, d.proposed(4, b)...)...)
	sends(d, "the other source", d.stored(), d.settled(other, 1))
	d.is("all", b)
	d.stands("all", api.PhaseReady, true, 1, 8)
}

// P14.4, P14.5: a settled lets entries go, and is not answered; what is not wanted is nothing.
func TestSettled(t *testing.T) {
	d := holder(t)
	b := d.queue(d.there[0], d.there[1], d.below[0])
	for _, m := range []api.Msg{d.release(2, 0), d.release(0, 0), d.release(own, 1), d.release(3, 1), d.release(-1, 1), d.release(math.MaxInt, 1), d.release(math.MinInt, 9)} {
		sends(d, "not wanted", d.hear(m))
	}
	d.stands("not wanted", api.PhaseReady, true, 1, 8)
	b = d.released(b, 2, 1)
	sends(d, "the first", d.hear(d.release(2, 1)), d.proposed(5, b)...)
	sends(d, "still wanted till that is chosen", d.hear(d.release(2, 1)))
	sends(d, "chosen; the second changes nothing", d.stored())
	d.stands("chosen", api.PhaseReady, true, 1, 8)
	d.is("chosen", b)
	sends(d, "not wanted any more", d.hear(d.release(2, 1)))
	b = d.released(b, 2, 2)
	sends(d, "above all", d.hear(d.release(2, math.MaxUint64)), d.proposed(6, b)...)
	sends(d, "chosen", d.stored())
	b = d.released(b, 0, 1)
	sends(d, "the other peer", d.hear(d.release(0, 1)), d.proposed(7, b)...)
	sends(d, "chosen", d.stored())
	d.is("none any more", b)
	sends(d, "none any more", d.hear(d.release(0, 1)))
	sends(d, "nothing to settle", d.tick(), d.beats(1, 1, 9, d.copies...)...)
}

// P14.4: of one peer the later settled waits, be it the lesser one.
func TestLaterSettled(t *testing.T) {
	d := holder(t)
	b := d.queue(d.there[0], d.there[1], d.below[0])
	now := d.submit(1, 1, 1)
	b = d.paid(b, now)
	d.hear(now)
	for _, m := range []api.Msg{d.release(2, 2), d.release(0, 1), d.release(2, 1)} {
		sends(d, "it waits", d.hear(m))
	}
	b = d.released(b, 0, 1)
	sends(d, "peer 0", d.stored(), append([]api.Msg{d.answer(now, api.OK)}, d.proposed(6, b)...)...)
	b = d.released(b, 2, 1)
	sends(d, "peer 2", d.stored(), d.proposed(7, b)...)
	sends(d, "chosen", d.stored())
	d.is("all", b)
	d.stands("all", api.PhaseReady, true, 1, 8)
}

// P14.4: the settle looks at each book that is chosen: what has come first since is sent with the next tick, and what is gone is not.
func TestLook(t *testing.T) {
	d := holder(t)
	two := copiesOf(t, d.c, 2)
	b := d.queue(d.there[0], d.there[1])
	toll := d.to(api.MsgSettle, two[0])
	toll.Peer, toll.Number, toll.Name, toll.Amount = 2, 1, d.there[0], 1
	sends(d, "the first entry", d.tick(), append(d.beats(1, 1, 9, d.copies...), toll)...)
	d.done()
	d.hear(d.release(2, 1))
	toll.To = two[1]
	sends(d, "not chosen yet", d.tick(), append(append(d.proposed(4, d.released(b, 2, 1)), d.beats(1, 2, 9, d.copies...)...), toll)...)
	d.stored()
	d.done()
	toll.To, toll.Number, toll.Name = two[2], 2, d.there[1]
	sends(d, "the second entry", d.tick(), append(d.beats(1, 3, 9, d.copies...), toll)...)

	// A book that a new epoch takes up is looked at, too.
	d.begin(7, value(b))
	sends(d, "running", d.tick(), d.prepares(7)...)
	d.hold(7, value(b))
	toll.To, toll.Number, toll.Name = two[0], 1, d.there[0]
	sends(d, "taken up", d.tick(), append(d.beats(7, 1, 9, d.copies...), toll)...)
}
