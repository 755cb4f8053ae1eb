package writer_test

import (
	"slices"
	"testing"

	"tally/api"
	"tally/shard"
	"tally/writer"
)

// spoil overwrites bytes, and the spare room behind their end.
func spoil(b []byte) {
	b = b[:cap(b)]
	for i := range b {
		b[i] = '!'
	}
}

// spoilBook overwrites all lists of a book, and the spare room behind their ends.
func spoilBook(b api.Book) {
	for i := range b.Accounts[:cap(b.Accounts)] {
		b.Accounts[:cap(b.Accounts)][i] = api.Account{Name: "!", Balance: 1 << 40}
	}
	for i := range b.Queue[:cap(b.Queue)] {
		b.Queue[:cap(b.Queue)][i] = api.Entry{Peer: 0, Number: 77, Name: "!", Amount: 77}
	}
	for i := range b.Slots[:cap(b.Slots)] {
		b.Slots[:cap(b.Slots)][i] = api.Slot{Number: 77}
	}
	for _, l := range [][]uint64{b.Next, b.Marks} {
		for i := range l[:cap(l)] {
			l[:cap(l)][i] = 77
		}
	}
}

// P14.7, R2: what is handed in is not kept: the accounts of the configuration, the values of Begin and Hear.
func TestHandedInIsNotKept(t *testing.T) {
	c := three()
	d := openWith(t, c, 0)
	d.c = three()
	for i := range c.Accounts {
		c.Accounts[i] = api.Account{Name: "nobody"}
	}
	b := first(d.c)
	s := value(b)
	d.begin(1, s)
	spoil(s.Value)
	s = value(b)
	m := d.promise(d.others[0], 1, s)
	d.hear(m)
	spoil(m.Value)
	sends(d, "as it was", d.tick(), d.writes(api.Tag{Epoch: 1, Seq: 1}, shard.Encode(b), 5, d.copies...)...)
	d.stored()
	d.is("as it was", b)
	ask := d.pay(0, 1, d.there[0], 1)
	ask.Value = []byte("an ask has none")
	sends(d, "of the configuration as it was", d.hear(ask), d.writes(api.Tag{Epoch: 1, Seq: 2}, shard.Encode(d.paid(b, ask)), 5, d.copies...)...)
	spoil(ask.Value)
	ask.Value = nil
	sends(d, "as it was", d.stored(), d.answer(ask, api.OK))
}

// P14.7, R2: what is handed in is not changed, nor is the room behind its end.
func TestHandedInIsNotChanged(t *testing.T) {
	row := append(three().Accounts, api.Account{Name: "behind", Balance: 3}, api.Account{Name: "the end"})
	was := slices.Clone(row)
	c := three()
	c.Accounts = row[:len(row)-2]
	d := openWith(t, c, 0)
	v := append(shard.Encode(first(c)), "behind the end"...)
	bytes := slices.Clone(v)
	s := api.Stored{Value: v[:len(v)-len("behind the end")]}
	d.begin(1, s)
	for _, m := range d.hear(d.promise(d.others[0], 1, s)) {
		spoil(m.Value)
	}
	d.stored()
	for n := range uint64(3) {
		d.hear(d.pay(0, n+1, d.there[0], 1))
		d.hear(d.balance(n, d.here[0]))
		b, _ := d.w.Book()
		spoilBook(b)
		for _, m := range d.tick() {
			spoil(m.Value)
		}
		clear(d.stored())
		d.done()
	}
	if !slices.Equal(row, was) {
		t.Errorf("accounts: %v", row)
	}
	if !slices.Equal(v, bytes) {
		t.Errorf("value: %q", v)
	}
}

// P14.7, R2: what is answered is new memory: messages, their values, the book.
func TestToldIsNew(t *testing.T) {
	d := holder(t)
	one, _ := d.w.Book()
	two, _ := d.w.Book()
	spoilBook(one)
	d.is("a book told ahead does not matter", two)
	d.is("as it was", first(d.c))
	b := first(d.c)
	ask := d.pay(0, 1, d.there[0], 2)
	l := d.hear(ask)
	again := d.tick()
	for _, m := range l {
		spoil(m.Value)
	}
	clear(l[:cap(l)])
	b = d.paid(b, ask)
	sends(d, "told ahead", again, append(d.proposed(2, b), d.beats(1, 1, 9, d.copies...)...)...)
	spoil(again[0].Value)
	sends(d, "its neighbour", again[1:2], d.proposed(2, b)[1])
	clear(again[:cap(again)])
	sends(d, "told anew", d.tick(), append(d.proposed(2, b), d.beats(1, 1, 9, d.copies...)...)...)
	l = d.stored()
	sends(d, "chosen", l, d.answer(ask, api.OK))
	clear(l[:cap(l)])
	d.is("chosen", b)
	one, _ = d.w.Book()
	spoilBook(one)
	d.is("chosen", b)
	toll := d.to(api.MsgSettle, copiesOf(t, d.c, 2)[0])
	toll.Peer, toll.Number, toll.Name, toll.Amount = 2, 1, d.there[0], 2
	sends(d, "the settle is of the book", d.tick(), append(d.beats(1, 1, 9, d.copies...), toll)...)
}

// P14.7: two writers have nothing in common, of one configuration, node and shard.
func TestTwo(t *testing.T) {
	c := three()
	d := openWith(t, c, 0)
	other := &desk{T: t, c: c, w: writer.New(c, d.node, own, 0), copies: d.copies, node: d.node, others: d.others, here: d.here, there: d.there}
	d.epoch()
	d.hold(1, value(first(c)))
	other.stands("the other", api.PhaseIdle, false, 0, 4)
	other.bookless("the other")
	if e, n := other.epoch(); e != 1 || n != 5 {
		t.Fatalf("epoch %d behind %d", e, n)
	}
	other.hold(1, value(first(c)))
	ask := d.submit(2, 1, 4)
	d.hear(ask)
	d.hear(d.balance(1, d.here[0]))
	other.is("the other", first(c))
	other.stands("the other", api.PhaseReady, true, 1, 8)
	sends(d, "chosen", d.stored(), d.answer(ask, api.OK))
	other.is("the other", first(c))
	sends(other, "the other has no reads", other.alive())
	sends(other, "the other's own", other.hear(ask), other.proposed(2, other.paid(first(c), ask))...)
	d.w.Hear(rivals(d, 2)["beat"], true)
	other.stands("the other", api.PhaseWriting, true, 1, 8)
}

// P14.7: the most that a message and a tick can make it answer.
func TestMost(t *testing.T) {
	c := three()
	c.Nodes, c.Copies, c.Shards, c.Queue = api.MaxNodes, api.MaxCopies, api.MaxShards, api.MaxQueue
	for range 4 {
		for _, n := range slices.Clone(names) {
			c.Accounts = append(c.Accounts, api.Account{Name: n + string(rune('a'+len(c.Accounts)/len(names))), Balance: 10})
		}
	}
	c.Accounts = c.Accounts[:api.MaxAccounts]
	d := openWith(t, c, 0)
	d.epoch()
	d.hold(1, value(first(c)))
	number := uint64(0)
	for peer := range c.Shards {
		if l := home(c, peer); peer != own && len(l) > 0 {
			number++
			d.hear(d.pay(0, number, l[0], 1))
			d.stored()
		}
	}
	d.hear(d.pay(0, 99, d.there[0], 1))
	if l := d.tick(); len(l) != 2*c.Copies+c.Shards-1 {
		t.Errorf("a tick: %d messages", len(l))
	}
	d.done()
	// Of what waits now only the last ask changes anything, so all is answered in one go.
	for peer := range c.Shards {
		d.hear(d.toll(peer, 1, 0))
	}
	for id := range uint64(api.MaxAsks - 1) {
		d.hear(d.submit(0, id+1, 1))
	}
	d.hear(d.submit(1, 1, 1))
	if l := d.stored(); len(l) != 1+c.Shards-1+api.MaxAsks-1+c.Copies {
		t.Errorf("a wrote: %d messages", len(l))
	}
}
