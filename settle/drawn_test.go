package settle_test

import (
	"math"
	"math/rand"
	"testing"

	"tally/api"
	"tally/settle"
)

// pair: a Settle and a plain one beside it.
type pair struct {
	*testing.T
	*rand.Rand
	s *settle.Settle
	m *model
}

func drawConfig(r *rand.Rand) api.Config {
	nodes := 1 + r.Intn(api.MaxNodes)
	n := 1 + 2*r.Intn((min(nodes, api.MaxCopies)+1)/2)
	most := 1 + r.Intn(8)
	if r.Intn(6) == 0 {
		most = 1 + r.Intn(api.MaxCap)
	}
	return api.Config{Nodes: nodes, Shards: 1 + r.Intn(api.MaxShards), Copies: n, Clients: 1, Queue: 4, Cap: most, Patience: 64, Flight: 9}
}

// queue: now and then entries of no peer, and numbers in any order.
func (p *pair) queue() []api.Entry {
	var q []api.Entry
	for range p.Intn(6) {
		e := entry(p.Intn(p.m.c.Shards+2)-1, uint64(p.Intn(4)))
		e.Amount = p.Uint64()
		q = append(q, e)
	}
	return q
}

// goOn: the queue as it is, but for its first entry, or with one more, as a holder's book goes on.
func (p *pair) goOn() []api.Entry {
	q := append([]api.Entry{}, p.m.queue...)
	switch n := p.Intn(4); {
	case n == 0 && len(q) > 0:
		return q[1:]
	case n == 1:
		return append(q, entry(p.Intn(p.m.c.Shards), uint64(p.Intn(9))))
	}
	return q
}

func (p *pair) asks() {
	p.Helper()
	for peer := -1; peer <= p.m.c.Shards; peer++ {
		for _, number := range []uint64{0, 1, 2, 3, 7, math.MaxUint64} {
			wants(p.T, p.s, peer, number, p.m.wants(peer, number))
		}
	}
}

func (p *pair) step() int {
	p.Helper()
	switch n := p.Intn(30); {
	case n == 0:
		p.s.Stop()
		p.m.stop()
	case n < 3:
		q := p.queue()
		p.s.Look(api.Book{Queue: q})
		p.m.look(q)
	case n < 9:
		q := p.goOn()
		p.s.Look(api.Book{Queue: q})
		p.m.look(q)
	default:
		want := p.m.tick()
		sends(p.T, "Tick", p.s, want...)
		return len(want)
	}
	return 0
}

// P13.1 to P13.5: drawn calls, each answer held against the chapter's plain telling.
func TestDrawn(t *testing.T) {
	r := rand.New(rand.NewSource(13))
	sent := 0
	for range 1000 {
		c := drawConfig(r)
		node, shard := r.Intn(c.Nodes), r.Intn(c.Shards)
		p := &pair{t, r, open(t, c, node, shard), newModel(t, c, node, shard)}
		p.asks()
		for range 150 {
			sent += p.step()
			p.asks()
		}
	}
	if sent < 10000 {
		t.Errorf("only %d settles have been sent", sent)
	}
}

// R1, P13.1: of configurations, nodes and shards that may not be nothing is said but that every call ends.
func TestOdd(t *testing.T) {
	odd := []int{math.MinInt, -1, 0, 1, 2, 3, 8, 9, 10, 64, 65, 1 << 40, math.MaxInt}
	r := rand.New(rand.NewSource(1313))
	any := func() int { return odd[r.Intn(len(odd))] }
	for i := range 20000 {
		c, node, shard := three(), 2, 0
		for _, n := range []*int{&c.Nodes, &c.Shards, &c.Copies, &c.Cap, &c.Queue, &c.Clients, &c.Patience, &c.Flight, &node, &shard} {
			if r.Intn(1+i%4) == 0 {
				*n = any()
			}
		}
		s := open(t, c, node, shard)
		s.Tick()
		s.Look(book(entry(1, 1), entry(any(), 2), entry(any(), math.MaxUint64), entry(2, 0)))
		s.Tick()
		s.Tick()
		s.Wants(any(), uint64(any()))
		s.Stop()
		s.Tick()
		s.Look(book(entry(any(), 1)))
		s.Tick()
	}
}
