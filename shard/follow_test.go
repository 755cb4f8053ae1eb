package shard_test

import (
	"math/rand"
	"testing"

	"tally/api"
	"tally/shard"
)

// sent: an entry that stands or has stood in a queue, and from which shard it is.
type sent struct {
	from int
	api.Entry
}

// world: the books of all shards of a configuration, all entries that there have ever been, and those that were credited.
type world struct {
	*testing.T
	*rand.Rand
	c     api.Config
	books []api.Book
	sent  []sent
	paid  []sent
}

func (w *world) submit(number uint64) {
	k := w.Intn(w.c.Shards)
	from, to := w.c.Accounts[w.Intn(len(w.c.Accounts))].Name, w.c.Accounts[w.Intn(len(w.c.Accounts))].Name
	if l := w.books[k].Accounts; len(l) > 0 && w.Intn(8) > 0 {
		from = l[w.Intn(len(l))].Name
	}
	was := len(w.books[k].Queue)
	w.books[k], _, _ = shard.Submit(w.c, w.books[k], pay(w.Intn(w.c.Clients+1), number, from, to, uint64(w.Intn(9))))
	if l := w.books[k].Queue; len(l) > was {
		w.sent = append(w.sent, sent{k, l[was]})
	}
}

// credit credits any entry of any time, mostly a late one or the next one of its row.
func (w *world) credit() {
	if len(w.sent) == 0 {
		return
	}
	s := w.sent[w.Intn(len(w.sent))]
	if w.Intn(2) == 0 {
		for _, x := range w.sent {
			if x.from == s.from && x.Peer == s.Peer && x.Number == w.books[s.Peer].Marks[s.from]+1 {
				s = x
			}
		}
	}
	got, ok := shard.Credit(w.c, w.books[s.Peer], s.from, s.Entry)
	if ok {
		w.paid = append(w.paid, s)
	}
	w.books[s.Peer] = got
}

// settle lets entries go up to the peer's mark, or a lesser number.
func (w *world) settle() {
	k, peer := w.Intn(w.c.Shards), w.Intn(w.c.Shards)
	mark := w.books[peer].Marks[k]
	w.books[k], _ = shard.Settled(w.books[k], peer, mark-min(mark, uint64(w.Intn(3))))
}

// whole: all balances and all that is pending are what there was at first.
func (w *world) whole() {
	want, got := uint64(0), uint64(0)
	for _, a := range w.c.Accounts {
		want += a.Balance
	}
	for k, b := range w.books {
		for _, a := range b.Accounts {
			got += a.Balance
		}
		for _, e := range b.Queue {
			if e.Number > w.books[e.Peer].Marks[k] {
				got += e.Amount
			}
		}
	}
	if got != want {
		w.Fatalf("P12.10: together %d, want %d", got, want)
	}
}

// once: each entry was credited once at most, in the order of the numbers of its row.
func (w *world) once() {
	last := map[[2]int]uint64{}
	for _, s := range w.paid {
		row := [2]int{s.from, s.Peer}
		if s.Number != last[row]+1 {
			w.Fatalf("P12.10: %d from %d to %d behind %d", s.Number, s.from, s.Peer, last[row])
		}
		last[row] = s.Number
	}
}

// P12.10: whatever is done, nothing is made or lost, and each entry is credited once, in order.
func TestFollows(t *testing.T) {
	paid := 0
	for seed := range int64(60) {
		w := &world{T: t, Rand: rand.New(rand.NewSource(1200 + seed))}
		w.c = api.Config{Shards: 1 + w.Intn(4), Clients: 1 + w.Intn(3), Queue: 1 + w.Intn(4)}
		for k := range w.c.Shards {
			for _, n := range names(1+w.Intn(3), k, w.c.Shards) {
				w.c.Accounts = append(w.c.Accounts, api.Account{Name: n, Balance: uint64(w.Intn(20))})
			}
		}
		for k := range w.c.Shards {
			w.books = append(w.books, shard.New(w.c, k))
		}
		for n := range uint64(600) {
			switch w.Intn(3) {
			case 0:
				w.submit(n/2 + 1)
			case 1:
				w.credit()
			case 2:
				w.settle()
			}
			w.whole()
		}
		for _, b := range w.books {
			may(t, "behind all", b, true)
		}
		w.once()
		paid += len(w.paid)
	}
	if paid < 1000 {
		t.Errorf("only %d entries were credited", paid)
	}
}

// P12.9: a request is answered the same again, whatever other clients and shards have done since; a lesser one is old.
func TestSameAgain(t *testing.T) {
	r := rand.New(rand.NewSource(129))
	for range 300 {
		c := drawConfig(r)
		b := drawBook(r, c)
		q := drawRequest(r, c, b)
		b, bad, ok := shard.Submit(c, b, q)
		if !ok {
			continue
		}
		for range 30 {
			if x := drawRequest(r, c, b); x.Client != q.Client {
				b, _, _ = shard.Submit(c, b, x)
			}
			if len(b.Queue) > 0 {
				b, _ = shard.Settled(b, b.Queue[0].Peer, b.Queue[0].Number)
			}
			other := drawRequest(r, c, b)
			other.Client, other.Number = q.Client, q.Number
			submits(t, c, b, other, bad, false, told(b))
			if other.Number = uint64(r.Intn(14)); other.Number > 0 && other.Number < q.Number {
				submits(t, c, b, other, api.BadOld, false, told(b))
			}
		}
	}
}
