package writer_test

import (
	"math"
	"math/rand"
	"reflect"
	"testing"
	"unsafe"

	"tally/api"
	"tally/shard"
	"tally/writer"
)

// lay lays the seq of the last chosen tag down inside: nobody counts to MaxNumber one by one.
func lay(w *writer.Writer, seq uint64) {
	f := reflect.ValueOf(w.Quorum).Elem().FieldByName("chosen").FieldByName("tag").FieldByName("Seq")
	reflect.NewAt(f.Type(), unsafe.Pointer(f.UnsafeAddr())).Elem().SetUint(seq)
}

// P14.5, DOC.md 'Counters': the last seq is MaxNumber; who would write behind it stands by, and what had been answered by then is all.
func TestLastSeq(t *testing.T) {
	d := holder(t)
	lay(d.w, api.MaxNumber-1)
	b := first(d.c)
	ask := d.submit(0, 5, 1)
	b = d.paid(b, ask)
	sends(d, "the last", d.hear(ask), d.proposed(api.MaxNumber, b)...)
	now, again, next, last := d.balance(1, d.here[0]), d.submit(0, 4, 1), d.submit(1, 1, 1), d.submit(0, 3, 1)
	for _, m := range []api.Msg{now, again, next, last} {
		sends(d, "it waits", d.hear(m))
	}
	sends(d, "what had been answered by then", d.stored(), d.answer(ask, api.OK), d.answer(again, api.BadOld))
	d.stands("behind the last", api.PhaseIdle, false, 0, 8)
	d.bookless("behind the last")
	if e, n := d.epoch(); e != 4 || n != 8 {
		t.Fatalf("epoch %d behind %d", e, n)
	}
	sends(d, "nothing waits", d.hold(4, value(b)))
	sends(d, "nothing waits", d.alive())

	// As long as nothing is to be written it holds all the same.
	d = holder(t)
	lay(d.w, api.MaxNumber)
	sends(d, "a read", d.hear(now))
	sends(d, "a read", d.alive(), d.amount(now, 10))
	sends(d, "no such client", d.hear(d.submit(7, 1, 1)), d.answer(d.submit(7, 1, 1), api.BadNumber))
	sends(d, "credited already", d.hear(d.toll(0, 0, 1)), d.settled(d.toll(0, 0, 1), 0))
	d.stands("it holds", api.PhaseReady, true, 1, 8)
	sends(d, "a settle", d.hear(d.toll(0, 1, 1)))
	d.stands("behind the last", api.PhaseIdle, false, 0, 8)
}

// R1, P14.5: the last entry's number, a mark at MaxNumber, and settles above it.
func TestLastNumbers(t *testing.T) {
	d := open(t)
	b := first(d.c)
	b.Marks[0], b.Next[2] = api.MaxNumber, api.MaxNumber
	d.epoch()
	d.hold(1, value(b))
	d.is("as it was", b)
	for _, number := range []uint64{0, 1, api.MaxNumber, api.MaxNumber + 1} {
		m := d.toll(0, number, 1)
		sends(d, "no more credits", d.hear(m), d.settled(m, api.MaxNumber))
	}
	sends(d, "above", d.hear(d.toll(0, api.MaxNumber+2, 1)))
	sends(d, "above", d.hear(d.toll(0, math.MaxUint64, 1)))
	ask := d.pay(0, 1, d.there[0], 1)
	d.hear(ask)
	sends(d, "no more entries", d.stored(), d.answer(ask, api.BadNumber))
	d.stands("it holds", api.PhaseReady, true, 1, 8)
}

var odd = []int{math.MinInt, -1, 0, 1, 2, 3, 4, 7, 8, 9, 17, 64, 1000, 1 << 40, math.MaxInt}

// oddMsg: a message with any numbers; one copy's answer now and then.
func oddMsg(r *rand.Rand, w *writer.Writer, node int, values [][]byte) api.Msg {
	pick := func() int { return odd[r.Intn(len(odd))] }
	wide := func() uint64 { return uint64(pick()) }
	kinds := []int{api.MsgPromise, api.MsgWrote, api.MsgWrote, api.MsgBeaten, api.MsgAsk, api.MsgSettle, api.MsgSettled, r.Intn(13)}
	m := api.Msg{Head: api.Head{Kind: kinds[r.Intn(len(kinds))], From: r.Intn(5), To: node, Shard: 0}, Epoch: w.Epoch(), Tag: api.Tag{Epoch: w.Epoch(), Seq: uint64(1 + r.Intn(3))}, Round: uint64(1 + r.Intn(3)),
		Span: pick(), Seen: wide(), Value: values[r.Intn(len(values))], Number: uint64(r.Intn(3)), Name: names[r.Intn(len(names))], Other: names[r.Intn(len(names))], Amount: uint64(r.Intn(3)), Op: r.Intn(5)}
	for _, n := range []*int{&m.From, &m.To, &m.Shard, &m.Peer, &m.Client, &m.State} {
		if r.Intn(50) == 0 {
			*n = pick()
		}
	}
	for _, n := range []*uint64{&m.Epoch, &m.Tag.Epoch, &m.Tag.Seq, &m.Round, &m.Number, &m.Amount, &m.Call.Life, &m.Call.ID} {
		if r.Intn(50) == 0 {
			*n = wide()
		}
	}
	return m
}

// R1, P14.1: of configurations, nodes and shards that may not be nothing is said but that every call ends.
func TestOdd(t *testing.T) {
	r := rand.New(rand.NewSource(14))
	pick := func() int { return odd[r.Intn(len(odd))] }
	books := 0
	for i := range 6000 {
		c, node, s := three(), r.Intn(5), r.Intn(3)
		c.Shards = 1 + r.Intn(3)
		for _, n := range []*int{&c.Nodes, &c.Shards, &c.Copies, &c.Clients, &c.Queue, &c.Cap, &c.Patience, &c.Flight, &node, &s} {
			if r.Intn(3+4*(i%9)) == 0 {
				*n = pick()
			}
		}
		if i%5 == 0 {
			c.Accounts = []api.Account{{Name: ""}, {Name: "ann", Balance: math.MaxUint64}, {Name: "ANN", Balance: math.MaxUint64}}
		}
		mine := shard.Encode(shard.New(c, s))
		values := [][]byte{nil, []byte("x"), shard.Encode(shard.New(three(), 0)), mine, mine, mine, mine, mine}
		w := writer.New(c, node, s, uint64(pick()))
		for range 80 {
			switch r.Intn(30) {
			case 0, 1:
				w.Begin(uint64(r.Intn(9)), api.Stored{Value: values[r.Intn(len(values))]})
			case 2, 3, 4, 5:
				w.Tick(r.Intn(2) > 0)
			default:
				m := oddMsg(r, w, node, values)
				if r.Intn(8) > 0 {
					m.Shard, m.Peer = s, s
					if m.Kind == api.MsgSettle {
						m.Shard = r.Intn(3)
					}
				}
				w.Hear(m, r.Intn(2) > 0)
			}
			if _, ok := w.Book(); ok {
				books++
			}
		}
	}
	if books < 1000 {
		t.Errorf("only %d times a book", books)
	}
}

// R1: a queue that may grow above what a book may have: the book is none any more; every call ends.
func TestQueueTooLong(t *testing.T) {
	c := three()
	c.Queue = 1000
	d := openWith(t, c, 0)
	d.epoch()
	d.hold(1, value(first(c)))
	for n := range uint64(api.MaxQueue) {
		m := d.pay(0, n+1, d.there[0], 1)
		m.Name = d.here[n%3]
		d.hear(m)
		d.stored()
	}
	d.hear(d.balance(1, d.here[0]))
	d.tick()
	m := d.pay(0, 99, d.there[0], 1)
	m.Name = d.here[2]
	d.hear(m)
	d.hear(d.submit(1, 1, 1))
	d.hear(d.toll(0, 1, 1))
	d.stored()
	d.bookless("too long")
	d.done()
	d.hear(d.toll(0, 0, 1))
	d.tick()
}
