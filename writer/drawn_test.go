package writer_test

import (
	"fmt"
	"math/rand"
	"slices"
	"testing"

	"tally/api"
	"tally/shard"
	"tally/writer"
)

// pair: a writer and a plain one beside it.
type pair struct {
	*testing.T
	*rand.Rand
	c       api.Config
	w       *writer.Writer
	m       *model
	node    int
	shard   int
	copies  []int
	values  [][]byte
	homes   [][]string
	last    api.Tag // that was written
	round   uint64  // that was beaten last
	told    map[int]int
	holds   int
	most    int
	changes map[api.Errno]int
	wrotes  int // how often what is written is stored
}

func drawPair(t *testing.T, r *rand.Rand) *pair {
	t.Helper()
	c := three()
	c.Nodes = 3 + r.Intn(7)
	c.Copies = 1 + 2*r.Intn((min(c.Nodes, api.MaxCopies)+1)/2)
	c.Shards = 1 + r.Intn(5)
	c.Clients = 1 + r.Intn(3)
	c.Queue = 1 + r.Intn(4)
	c.Cap = 1 + r.Intn(5)
	c.Patience = 4 + r.Intn(30)
	p := &pair{T: t, Rand: r, c: c, shard: r.Intn(c.Shards), told: map[int]int{}, changes: map[api.Errno]int{}, wrotes: 1 + r.Intn(6)}
	p.copies = copiesOf(t, c, p.shard)
	for s := range c.Shards {
		p.homes = append(p.homes, home(c, s))
	}
	p.node = p.copies[r.Intn(c.Copies)]
	seen := uint64(r.Intn(5))
	p.w, p.m = writer.New(c, p.node, p.shard, seen), newModel(t, c, p.node, p.shard, seen)
	good := shard.Encode(shard.New(c, p.shard))
	p.values = [][]byte{good, good, good, good, good, good, nil, []byte("x"), shard.Encode(shard.New(c, (p.shard+1)%c.Shards))}
	return p
}

// held holds what both have told against each other, and how both stand.
func (p *pair) held(what string, got, want []api.Msg) {
	p.Helper()
	if tells(got) != tells(want) {
		p.Fatalf("%s: %s, want\n%s", what, tells(got), tells(want))
	}
	a, aok := p.w.Book()
	b, bok := p.m.book()
	if aok != bok || fmt.Sprintf("%+v", a) != fmt.Sprintf("%+v", b) {
		p.Fatalf("%s: book %+v, %v, want\n%+v, %v", what, a, aok, b, bok)
	}
	if p.w.Phase() != p.m.q.Phase() || p.w.Holds() != p.m.q.Holds() || p.w.Epoch() != p.m.q.Epoch() || p.w.Patience() != p.m.l.Patience() {
		p.Fatalf("%s: phase %d, holds %v, epoch %d, patience %d, want %d, %v, %d, %d", what, p.w.Phase(), p.w.Holds(), p.w.Epoch(), p.w.Patience(), p.m.q.Phase(), p.m.q.Holds(), p.m.q.Epoch(), p.m.l.Patience())
	}
	for _, m := range got {
		p.told[m.Kind]++
		switch m.Kind {
		case api.MsgWrite:
			p.last = m.Tag
		case api.MsgBeat:
			p.round = m.Round
		case api.MsgAnswer:
			p.changes[m.Bad]++
		}
	}
	if aok {
		p.holds++
	}
}

func (p *pair) begin(epoch uint64) {
	p.Helper()
	own := api.Stored{Promised: epoch, Tag: api.Tag{Seq: uint64(p.Intn(2))}, Value: p.values[p.Intn(len(p.values))]}
	p.held("Begin", p.w.Begin(epoch, own), p.m.begin(epoch, own))
}

func (p *pair) step() {
	p.Helper()
	switch n := p.Intn(100); {
	case n < 12:
		free := p.Intn(4) > 0
		got, e := p.w.Tick(free)
		want, f := p.m.tick(free)
		if e != f || len(got) > 2*p.c.Copies+p.c.Shards {
			p.Fatalf("Tick: epoch %d, %d messages, want %d", e, len(got), f)
		}
		p.held("Tick", got, want)
		if e != 0 && p.Intn(8) > 0 {
			p.begin(e)
		}
	case n == 12 && p.Intn(5) == 0:
		p.begin(uint64(p.Intn(40)))
	default:
		m := p.draw()
		taken := (m.Kind == api.MsgWrite || m.Kind == api.MsgBeat) && p.Intn(2) > 0
		got := p.w.Hear(m, taken)
		p.most = max(p.most, len(got))
		if len(got) > p.c.Copies+2*api.MaxAsks+p.c.Shards+1 {
			p.Fatalf("%+v: %d messages", m, len(got))
		}
		p.held(fmt.Sprintf("%+v", m), got, p.m.hear(m, taken))
	}
}

// near: that number, or now and then one beside it.
func (p *pair) near(n uint64) uint64 {
	if p.Intn(12) > 0 {
		return n
	}
	return n + uint64(p.Intn(4)) - 1
}

func (p *pair) name(s int) string {
	l := p.homes[s]
	if len(l) == 0 || p.Intn(10) == 0 {
		return append(names, "nobody")[p.Intn(len(names)+1)]
	}
	return l[p.Intn(len(l))]
}

func (p *pair) draw() api.Msg {
	kinds := append([]int{api.MsgPromise, api.MsgBeaten, api.MsgBeaten, api.MsgAsk, api.MsgAsk, api.MsgAsk, api.MsgAsk, api.MsgSettle, api.MsgSettle, api.MsgSettled}, slices.Repeat([]int{api.MsgWrote}, p.wrotes)...)
	if p.w.Phase() == api.PhasePreparing {
		kinds = []int{api.MsgPromise}
	}
	if p.Intn(40) == 0 {
		kinds = []int{api.MsgRefuse, api.MsgRefuse, api.MsgPrepare, api.MsgWrite, api.MsgBeat, api.MsgNone, api.MsgAnswer}
	}
	m := api.Msg{Head: api.Head{Kind: kinds[p.Intn(len(kinds))], From: p.copies[p.Intn(len(p.copies))], To: p.node, Shard: p.shard}}
	switch m.Kind {
	case api.MsgPrepare, api.MsgBeat:
		m.Epoch, m.Round, m.Span = uint64(p.Intn(12)), 1, 5
	case api.MsgWrite:
		m.Tag, m.Value = api.Tag{Epoch: uint64(p.Intn(12)), Seq: 1}, p.values[0]
	case api.MsgPromise:
		m.Epoch, m.Tag.Seq, m.Value = p.near(p.w.Epoch()), uint64(p.Intn(3)), p.values[p.Intn(len(p.values))]
	case api.MsgWrote:
		m.Tag = api.Tag{Epoch: p.near(p.last.Epoch), Seq: p.near(p.last.Seq)}
	case api.MsgBeaten:
		m.Epoch, m.Round = p.near(p.w.Epoch()), p.near(p.round)
	case api.MsgRefuse:
		m.Epoch = p.near(p.w.Epoch())
		m.Seen = m.Epoch + uint64(p.Intn(3))
	case api.MsgAsk:
		p.drawAsk(&m)
	case api.MsgSettle, api.MsgSettled:
		p.drawSettle(&m)
	}
	if p.Intn(40) == 0 {
		m.To++
	}
	if p.Intn(40) == 0 {
		m.Shard++
	}
	return m
}

func (p *pair) drawAsk(m *api.Msg) {
	m.From = p.Intn(p.c.Nodes)
	m.Call = api.Call{Life: 1, ID: uint64(p.Intn(30))}
	m.Op = []int{api.CallSubmit, api.CallSubmit, api.CallSubmit, api.CallBalance, api.CallStatus, api.CallNone}[p.Intn(6)]
	m.Client = p.Intn(p.c.Clients + 1)
	var top uint64
	if b, ok := p.m.book(); ok && m.Client < len(b.Slots) {
		top = b.Slots[m.Client].Number
	}
	m.Number = max(top, 1) + uint64(p.Intn(6)) - 1
	m.Name, m.Other, m.Amount = p.name(p.shard), p.name(p.Intn(p.c.Shards)), uint64(p.Intn(8))
}

func (p *pair) drawSettle(m *api.Msg) {
	b, ok := p.m.book()
	peer := p.Intn(p.c.Shards)
	m.From, m.Peer = p.Intn(p.c.Nodes), peer
	m.Number = uint64(p.Intn(3))
	if m.Kind == api.MsgSettled {
		if ok && b.Next[peer] > 3 {
			m.Number += b.Next[peer] - 3
		}
		return
	}
	m.Shard, m.Peer = peer, p.shard
	m.Name, m.Amount = p.name(p.shard), uint64(p.Intn(4))
	if ok {
		m.Number += b.Marks[peer]
	}
}

// P14.1 to P14.7: drawn calls, each answer held against the chapter's plain telling, and how both stand behind it.
func TestDrawn(t *testing.T) {
	r := rand.New(rand.NewSource(14))
	told, bads, holds, most := map[int]int{}, map[api.Errno]int{}, 0, 0
	for range 200 {
		p := drawPair(t, r)
		for range 400 {
			p.step()
		}
		for kind, n := range p.told {
			told[kind] += n
		}
		for bad, n := range p.changes {
			bads[bad] += n
		}
		holds, most = holds+p.holds, max(most, p.most)
	}
	for _, kind := range []int{api.MsgPrepare, api.MsgWrite, api.MsgBeat, api.MsgSettle, api.MsgSettled, api.MsgAnswer} {
		if told[kind] < 500 {
			t.Errorf("kind %d has been told %d times alone", kind, told[kind])
		}
	}
	for _, bad := range []api.Errno{api.OK, api.BadAccount, api.BadZero, api.BadFunds, api.BadQueue, api.BadOld, api.BadNumber} {
		if bads[bad] < 10 {
			t.Errorf("%d has been answered %d times alone", bad, bads[bad])
		}
	}
	if holds < 20000 || most < 10 {
		t.Errorf("it held at %d steps alone; %d messages at most", holds, most)
	}
}
