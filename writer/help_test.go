package writer_test

import (
	"fmt"
	"slices"
	"testing"

	"tally/api"
	"tally/plane"
	"tally/shard"
	"tally/text"
	"tally/writer"
)

// own: the tests' writers are about this shard: it has peers below and above it.
const own = 1

var names = []string{"ann", "bob", "cat", "dan", "eve", "fay", "gus", "hal", "ida", "joe", "kim", "leo", "mia", "ned", "oli", "pam"}

// three: three shards, each in three copies on five nodes; each account has 10.
func three() api.Config {
	c := api.Config{Nodes: 5, Shards: 3, Copies: 3, Clients: 3, Queue: 3, Cap: 4, Patience: 64, Flight: 100}
	for _, n := range names {
		c.Accounts = append(c.Accounts, api.Account{Name: n, Balance: 10})
	}
	return c
}

// home tells the accounts of a shard.
func home(c api.Config, s int) []string {
	var l []string
	for _, a := range c.Accounts {
		if text.Home(a.Name, c.Shards) == s {
			l = append(l, a.Name)
		}
	}
	return l
}

func copiesOf(t *testing.T, c api.Config, s int) []int {
	t.Helper()
	l, e := plane.Copies(s, c.Nodes, c.Copies)
	if e != api.OK {
		t.Fatalf("Copies(%d, %d, %d): %d", s, c.Nodes, c.Copies, e)
	}
	return l
}

// desk: a writer of the place 1, and the test that plays the copies around it.
type desk struct {
	*testing.T
	c           api.Config
	w           *writer.Writer
	copies      []int
	node        int
	others      []int
	here, there []string // accounts of the own shard, and of shard 2
	below       []string // and of shard 0
	tag         api.Tag  // of the last write that it has told
	round       uint64   // of the last beat
}

func open(t *testing.T) *desk { return openWith(t, three(), 0) }

func openWith(t *testing.T, c api.Config, seen uint64) *desk {
	t.Helper()
	d := &desk{T: t, c: c, copies: copiesOf(t, c, own), here: home(c, own), there: home(c, 2), below: home(c, 0)}
	d.node = d.copies[1%len(d.copies)]
	d.others = slices.DeleteFunc(slices.Clone(d.copies), func(n int) bool { return n == d.node })
	if len(d.here) < 3 || len(d.there) < 2 || len(d.below) < 1 {
		t.Fatalf("too few accounts: %v, %v, %v", d.here, d.there, d.below)
	}
	d.w = writer.New(c, d.node, own, seen)
	if d.w == nil {
		t.Fatal("New: none")
	}
	return d
}

// note looks at what is written, and which round it is.
func (d *desk) note(l []api.Msg) []api.Msg {
	for _, m := range l {
		switch m.Kind {
		case api.MsgWrite:
			d.tag = m.Tag
		case api.MsgBeat:
			d.round = m.Round
		}
	}
	return l
}

func (d *desk) hear(m api.Msg) []api.Msg { return d.note(d.w.Hear(m, false)) }

func (d *desk) begin(epoch uint64, s api.Stored) []api.Msg { return d.note(d.w.Begin(epoch, s)) }

// tick ticks one that is free and begins nothing by it.
func (d *desk) tick() []api.Msg {
	d.Helper()
	l, epoch := d.w.Tick(true)
	if epoch != 0 {
		d.Fatalf("Tick: epoch %d", epoch)
	}
	return d.note(l)
}

// ticks: so many that tell nothing of which the test wants to know.
func (d *desk) ticks(n int) {
	d.Helper()
	for range n {
		d.tick()
	}
}

// epoch: the tick at which it begins one, with the number of ticks that it took.
func (d *desk) epoch() (uint64, int) {
	d.Helper()
	for n := 1; n < 4000; n++ {
		l, epoch := d.w.Tick(true)
		if epoch != 0 {
			sends(d, "an epoch's tick", l)
			return epoch, n
		}
	}
	d.Fatal("no epoch")
	return 0, 0
}

func (d *desk) from(kind, from int) api.Msg {
	return api.Msg{Head: api.Head{Kind: kind, From: from, To: d.node, Shard: own}}
}

func (d *desk) to(kind, to int) api.Msg {
	return api.Msg{Head: api.Head{Kind: kind, From: d.node, To: to, Shard: own}}
}

func (d *desk) promise(from int, epoch uint64, s api.Stored) api.Msg {
	m := d.from(api.MsgPromise, from)
	m.Epoch, m.Tag, m.Value = epoch, s.Tag, s.Value
	return m
}

func (d *desk) refuse(from int, epoch, seen uint64) api.Msg {
	m := d.from(api.MsgRefuse, from)
	m.Epoch, m.Seen = epoch, seen
	return m
}

func (d *desk) wrote(from int) api.Msg {
	m := d.from(api.MsgWrote, from)
	m.Tag = d.tag
	return m
}

func (d *desk) beaten(from int) api.Msg {
	m := d.from(api.MsgBeaten, from)
	m.Epoch, m.Round = d.w.Epoch(), d.round
	return m
}

// stored: a majority has stored what is written; what is told then.
func (d *desk) stored() []api.Msg {
	d.Helper()
	tag := d.tag
	most := d.copies[len(d.copies)/2:]
	for _, n := range most[1:] {
		sends(d, "a wrote", d.hear(d.wrote(n)))
	}
	if d.tag != tag {
		d.Fatal("the tag has changed on the way")
	}
	return d.hear(d.wrote(most[0]))
}

// done: a majority has answered the round under way; what is told then.
func (d *desk) done() []api.Msg {
	d.Helper()
	most := d.copies[:len(d.copies)/2+1]
	for _, n := range most[1:] {
		sends(d, "a beaten", d.hear(d.beaten(n)))
	}
	return d.hear(d.beaten(most[0]))
}

// alive: a round begins and is done, so that the lease goes on.
func (d *desk) alive() []api.Msg {
	d.Helper()
	d.tick()
	return d.done()
}

func first(c api.Config) api.Book { return shard.New(c, own) }

func value(b api.Book) api.Stored { return api.Stored{Value: shard.Encode(b)} }

// hold brings it to hold an epoch over what its own copy has stored.
func (d *desk) hold(epoch uint64, s api.Stored) []api.Msg {
	d.Helper()
	d.begin(epoch, s)
	if len(d.others) > 0 {
		for _, n := range d.others[:len(d.copies)/2] {
			d.hear(d.promise(n, epoch, api.Stored{}))
		}
	}
	var l []api.Msg
	for _, n := range d.copies[:len(d.copies)/2+1] {
		l = d.hear(d.wrote(n))
	}
	if d.w.Phase() != api.PhaseReady || !d.w.Holds() || d.w.Epoch() != epoch {
		d.Fatalf("it does not hold: phase %d, epoch %d", d.w.Phase(), d.w.Epoch())
	}
	return l
}

// holder: one that holds the epoch 1 over the first book: it has begun that by its ticks, so its patience is 8.
func holder(t *testing.T) *desk {
	t.Helper()
	d := open(t)
	if e, n := d.epoch(); e != 1 || n != 5 {
		t.Fatalf("epoch %d behind %d ticks", e, n)
	}
	sends(d, "it holds", d.hold(1, value(first(d.c))))
	return d
}

// busy: a holder whose write is under way: client 2 has paid 1.
func busy(t *testing.T) *desk {
	t.Helper()
	d := holder(t)
	if l := d.hear(d.submit(2, 1, 1)); len(l) != 3 || d.w.Phase() != api.PhaseWriting {
		t.Fatalf("no write: %+v", l)
	}
	return d
}

// ask: one for call id of the life 7 of node 4.
func (d *desk) ask(op int, id uint64) api.Msg {
	m := d.from(api.MsgAsk, 4)
	m.Op, m.Call = op, api.Call{Life: 7, ID: id}
	return m
}

// submit: an ask for a payment between the first two accounts of the shard; its call's id is made of client and number.
func (d *desk) submit(client int, number, amount uint64) api.Msg {
	m := d.ask(api.CallSubmit, 100*uint64(client)+number)
	m.Client, m.Number, m.Name, m.Other, m.Amount = client, number, d.here[0], d.here[1], amount
	return m
}

// pay: one for a payment to another shard's account.
func (d *desk) pay(client int, number uint64, other string, amount uint64) api.Msg {
	m := d.submit(client, number, amount)
	m.Name, m.Other = d.here[2], other
	return m
}

// queue: client 0 pays 1 each to those accounts of other shards; the holder's book then.
func (d *desk) queue(others ...string) api.Book {
	d.Helper()
	b := first(d.c)
	for i, other := range others {
		ask := d.pay(0, uint64(i)+1, other, 1)
		b = d.paid(b, ask)
		d.hear(ask)
		sends(d, "a payment", d.stored(), d.answer(ask, api.OK))
	}
	return b
}

func (d *desk) balance(id uint64, name string) api.Msg {
	m := d.ask(api.CallBalance, id)
	m.Name = name
	return m
}

func (d *desk) status(id uint64, client int, number uint64) api.Msg {
	m := d.ask(api.CallStatus, id)
	m.Client, m.Number, m.Name = client, number, d.here[0]
	return m
}

// answer: the answer to an ask, and what it says.
func (d *desk) answer(ask api.Msg, bad api.Errno) api.Msg {
	m := d.to(api.MsgAnswer, ask.From)
	m.Call, m.Bad = ask.Call, bad
	return m
}

func (d *desk) amount(ask api.Msg, amount uint64) api.Msg {
	m := d.answer(ask, api.OK)
	m.Amount = amount
	return m
}

func (d *desk) state(ask api.Msg, state int, bad api.Errno) api.Msg {
	m := d.answer(ask, bad)
	m.State = state
	return m
}

// toll: a settle from another shard, of the holder at node 3.
func (d *desk) toll(source int, number, amount uint64) api.Msg {
	return api.Msg{Head: api.Head{Kind: api.MsgSettle, From: 3, To: d.node, Shard: source}, Peer: own, Number: number, Name: d.here[0], Amount: amount}
}

// settled: what is answered to one.
func (d *desk) settled(toll api.Msg, mark uint64) api.Msg {
	return api.Msg{Head: api.Head{Kind: api.MsgSettled, From: d.node, To: toll.From, Shard: toll.Shard}, Peer: own, Number: mark}
}

// release: a settled of a peer.
func (d *desk) release(peer int, number uint64) api.Msg {
	m := d.from(api.MsgSettled, 2)
	m.Peer, m.Number = peer, number
	return m
}

func (d *desk) writes(tag api.Tag, b []byte, span int, to ...int) []api.Msg {
	var l []api.Msg
	for _, n := range to {
		m := d.to(api.MsgWrite, n)
		m.Tag, m.Value, m.Span = tag, b, span
		l = append(l, m)
	}
	return l
}

func (d *desk) beats(epoch, round uint64, span int, to ...int) []api.Msg {
	var l []api.Msg
	for _, n := range to {
		m := d.to(api.MsgBeat, n)
		m.Epoch, m.Round, m.Span = epoch, round, span
		l = append(l, m)
	}
	return l
}

func (d *desk) prepares(epoch uint64) []api.Msg {
	var l []api.Msg
	for _, n := range d.others {
		m := d.to(api.MsgPrepare, n)
		m.Epoch = epoch
		l = append(l, m)
	}
	return l
}

// paid: a book, behind a request that changes it.
func (d *desk) paid(b api.Book, ask api.Msg) api.Book {
	d.Helper()
	b, bad, changed := shard.Submit(d.c, b, api.Request{Op: ask.Op, Client: ask.Client, Number: ask.Number, Name: ask.Name, Other: ask.Other, Amount: ask.Amount})
	if !changed || bad == api.BadOld {
		d.Fatalf("%+v: %d, %v", ask, bad, changed)
	}
	return b
}

// credited: a book, behind a settle that changes it.
func (d *desk) credited(b api.Book, toll api.Msg) api.Book {
	d.Helper()
	b, changed := shard.Credit(d.c, b, toll.Shard, api.Entry{Peer: toll.Peer, Number: toll.Number, Name: toll.Name, Amount: toll.Amount})
	if !changed {
		d.Fatalf("%+v: no credit", toll)
	}
	return b
}

// released: a book, behind a settled that changes it.
func (d *desk) released(b api.Book, peer int, number uint64) api.Book {
	d.Helper()
	b, changed := shard.Settled(b, peer, number)
	if !changed {
		d.Fatalf("no entry to %d up to %d", peer, number)
	}
	return b
}

// proposed: the writes of the next tag with a book, to all copies.
func (d *desk) proposed(seq uint64, b api.Book) []api.Msg {
	return d.writes(api.Tag{Epoch: 1, Seq: seq}, shard.Encode(b), 9, d.copies...)
}

// tells: messages with all of their fields; a nil value and an empty one are the same.
func tells(l []api.Msg) string { return fmt.Sprintf("%d: %+v", len(l), l) }

func sends(d *desk, what string, got []api.Msg, want ...api.Msg) {
	d.Helper()
	if tells(got) != tells(want) {
		d.Fatalf("%s:\n%s, want\n%s", what, tells(got), tells(want))
	}
}

// is: the holder's book.
func (d *desk) is(what string, want api.Book) {
	d.Helper()
	b, ok := d.w.Book()
	if !ok || fmt.Sprintf("%+v", b) != fmt.Sprintf("%+v", want) {
		d.Fatalf("%s: %+v, %v, want\n%+v", what, b, ok, want)
	}
}

func (d *desk) bookless(what string) {
	d.Helper()
	if b, ok := d.w.Book(); ok || fmt.Sprintf("%+v", b) != fmt.Sprintf("%+v", api.Book{}) {
		d.Fatalf("%s: a book %+v, %v", what, b, ok)
	}
}

// stands: how it stands.
func (d *desk) stands(what string, phase int, holds bool, epoch uint64, patience int) {
	d.Helper()
	if d.w.Phase() != phase || d.w.Holds() != holds || d.w.Epoch() != epoch || d.w.Patience() != patience {
		d.Fatalf("%s: phase %d, holds %v, epoch %d, patience %d; want %d, %v, %d, %d", what, d.w.Phase(), d.w.Holds(), d.w.Epoch(), d.w.Patience(), phase, holds, epoch, patience)
	}
}
