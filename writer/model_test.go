package writer_test

import (
	"slices"
	"testing"

	"tally/api"
	"tally/lease"
	"tally/quorum"
	"tally/settle"
	"tally/shard"
)

// model: a second, plain telling of the chapter, over the packages below; what waits are the messages themselves, in lists.
type model struct {
	c           api.Config
	node, shard int
	q           *quorum.Quorum
	l           *lease.Lease
	s           *settle.Settle
	credits     []api.Msg
	settleds    []api.Msg
	asks        []api.Msg
	reads       []api.Msg
	rounds      []uint64 // of the reads
	deed        api.Msg  // no kind: none
	verdict     api.Errno
}

func newModel(t *testing.T, c api.Config, node, s int, seen uint64) *model {
	t.Helper()
	copies := copiesOf(t, c, s)
	return &model{c: c, node: node, shard: s, q: quorum.New(node, s, copies), l: lease.New(slices.Index(copies, node), c.Copies, c.Patience, seen), s: settle.New(c, node, s)}
}

// book: read anew each time it is asked for.
func (m *model) book() (api.Book, bool) {
	if !m.q.Holds() {
		return api.Book{}, false
	}
	_, v := m.q.Chosen()
	b, bad := shard.Decode(v)
	if bad != api.OK || b.Shard != m.shard || len(b.Next) != m.c.Shards || len(b.Slots) != m.c.Clients {
		return api.Book{}, false
	}
	return b, true
}

func (m *model) forget() {
	m.s.Stop()
	m.credits, m.settleds, m.asks, m.reads, m.rounds, m.deed = nil, nil, nil, nil, nil, api.Msg{}
}

func (m *model) standBy() {
	m.q.Stop()
	m.forget()
	m.l.Rest()
}

func (m *model) tick(free bool) ([]api.Msg, uint64) {
	epoch, ends := m.l.Tick(m.q.Phase(), m.q.Holds(), free)
	switch {
	case ends:
		m.standBy()
		return nil, 0
	case epoch != 0:
		return nil, epoch
	}
	before, _ := m.q.Round()
	out := m.q.Tick(m.l.Span())
	after, _ := m.q.Round()
	if after > before {
		m.l.Begun()
		for i, r := range m.rounds {
			if r == 0 {
				m.rounds[i] = after
			}
		}
	}
	return append(out, m.s.Tick()...), 0
}

func (m *model) begin(epoch uint64, own api.Stored) []api.Msg {
	m.forget()
	return m.q.Start(epoch, own, m.l.Span())
}

func (m *model) hear(x api.Msg, taken bool) []api.Msg {
	at := x.Shard
	if x.Kind == api.MsgSettle {
		at = x.Peer
	}
	if x.To != m.node || at != m.shard {
		return nil
	}
	switch x.Kind {
	case api.MsgPrepare, api.MsgWrite, api.MsgBeat:
		m.rival(x, taken)
	case api.MsgPromise, api.MsgWrote, api.MsgRefuse, api.MsgBeaten:
		return m.copyAnswers(x)
	case api.MsgAsk, api.MsgSettle, api.MsgSettled:
		if b, ok := m.book(); ok {
			return m.comes(b, x)
		}
	}
	return nil
}

func (m *model) rival(x api.Msg, taken bool) {
	if x.From == m.node {
		return
	}
	e := x.Epoch
	if x.Kind == api.MsgWrite {
		e = x.Tag.Epoch
	}
	m.l.Heard(e, x.Kind == api.MsgPrepare, taken)
	runs := m.q.Phase() != api.PhaseIdle && !m.q.Holds()
	holds := m.q.Holds()
	if runs && e > m.q.Epoch() || holds && x.Kind != api.MsgPrepare && e > m.q.Epoch() {
		m.standBy()
	}
}

func (m *model) copyAnswers(x api.Msg) []api.Msg {
	idle, held := m.q.Phase() == api.PhaseIdle, m.q.Holds()
	tag, _ := m.q.Chosen()
	_, done := m.q.Round()
	out := m.q.Hear(x, m.l.Span())
	m.l.Heard(m.q.Seen(), false, false)
	if !idle && m.q.Phase() == api.PhaseIdle {
		m.standBy()
		return out
	}
	if m.q.Holds() && !held {
		m.l.Begun()
		m.l.Done()
	}
	if now, _ := m.q.Chosen(); now != tag {
		if b, ok := m.book(); ok {
			m.s.Look(b)
		}
		d := m.deed
		m.deed = api.Msg{}
		out = append(out, m.answer(d, m.verdict)...)
	}
	if _, now := m.q.Round(); now != done {
		m.l.Done()
		out = append(out, m.tellReads(now)...)
	}
	return append(out, m.goOn()...)
}

func (m *model) tellReads(done uint64) []api.Msg {
	var out, reads []api.Msg
	var rounds []uint64
	b, _ := m.book()
	for i, x := range m.reads {
		if r := m.rounds[i]; r == 0 || r > done {
			reads, rounds = append(reads, x), append(rounds, r)
			continue
		}
		a := m.to(x, api.MsgAnswer)
		switch x.Op {
		case api.CallBalance:
			a.Amount, a.Bad = shard.Balance(b, x.Name)
		case api.CallStatus:
			a.State, a.Bad = shard.Status(b, x.Client, x.Number)
		}
		out = append(out, a)
	}
	m.reads, m.rounds = reads, rounds
	return out
}

// to: what goes back for a message.
func (m *model) to(x api.Msg, kind int) api.Msg {
	a := api.Msg{Head: api.Head{Kind: kind, From: m.node, To: x.From, Shard: x.Shard}}
	if kind == api.MsgAnswer {
		a.Call = x.Call
	}
	return a
}

func (m *model) answer(x api.Msg, verdict api.Errno) []api.Msg {
	switch x.Kind {
	case api.MsgAsk:
		a := m.to(x, api.MsgAnswer)
		a.Bad = verdict
		return []api.Msg{a}
	case api.MsgSettle:
		b, _ := m.book()
		a := m.to(x, api.MsgSettled)
		a.Peer, a.Number = m.shard, b.Marks[x.Shard]
		return []api.Msg{a}
	}
	return nil
}

// put lays a message in the place of the one like it, or behind the others; false: there is none like it and no room.
func put(l []api.Msg, x api.Msg, most int, like func(a, b api.Msg) bool) []api.Msg {
	for i, y := range l {
		if like(x, y) {
			l[i] = x
			return l
		}
	}
	if len(l) >= most {
		return l
	}
	return append(l, x)
}

func (m *model) comes(b api.Book, x api.Msg) []api.Msg {
	switch x.Kind {
	case api.MsgAsk:
		return m.ask(x)
	case api.MsgSettle:
		if x.Shard < 0 || x.Shard >= m.c.Shards || x.Shard == m.shard {
			return nil
		}
		if x.Number <= b.Marks[x.Shard] {
			return m.answer(x, api.OK)
		}
		if x.Number == b.Marks[x.Shard]+1 {
			m.credits = put(m.credits, x, api.MaxShards, func(a, b api.Msg) bool { return a.Shard == b.Shard })
			return m.goOn()
		}
	case api.MsgSettled:
		if m.s.Wants(x.Peer, x.Number) {
			m.settleds = put(m.settleds, x, api.MaxShards, func(a, b api.Msg) bool { return a.Peer == b.Peer })
			return m.goOn()
		}
	}
	return nil
}

func (m *model) ask(x api.Msg) []api.Msg {
	switch x.Op {
	case api.CallSubmit:
		m.asks = put(m.asks, x, api.MaxAsks, func(a, b api.Msg) bool { return a.Client == b.Client && a.Number == b.Number })
		return m.goOn()
	case api.CallBalance, api.CallStatus:
		if !slices.ContainsFunc(m.reads, func(y api.Msg) bool { return x.From == y.From && x.Call == y.Call }) && len(m.reads) < api.MaxAsks {
			m.reads, m.rounds = append(m.reads, x), append(m.rounds, 0)
		}
	}
	return nil
}

// take: what comes next; the least of a list, or its first.
func (m *model) take() (api.Msg, bool) {
	for _, l := range []struct {
		row *[]api.Msg
		of  func(api.Msg) int
	}{{&m.credits, func(x api.Msg) int { return x.Shard }}, {&m.settleds, func(x api.Msg) int { return x.Peer }}, {&m.asks, func(api.Msg) int { return 0 }}} {
		at := -1
		for i, x := range *l.row {
			if at < 0 || l.of(x) < l.of((*l.row)[at]) {
				at = i
			}
		}
		if at >= 0 {
			x := (*l.row)[at]
			*l.row = slices.Delete(*l.row, at, at+1)
			return x, true
		}
	}
	return api.Msg{}, false
}

func (m *model) goOn() []api.Msg {
	var out []api.Msg
	for m.q.Phase() == api.PhaseReady {
		b, ok := m.book()
		if !ok {
			return out
		}
		x, there := m.take()
		if !there {
			return out
		}
		next, bad, changed := b, api.OK, false
		switch x.Kind {
		case api.MsgAsk:
			next, bad, changed = shard.Submit(m.c, b, api.Request{Op: x.Op, Client: x.Client, Number: x.Number, Name: x.Name, Other: x.Other, Amount: x.Amount})
		case api.MsgSettle:
			next, changed = shard.Credit(m.c, b, x.Shard, api.Entry{Peer: x.Peer, Number: x.Number, Name: x.Name, Amount: x.Amount})
		case api.MsgSettled:
			next, changed = shard.Settled(b, x.Peer, x.Number)
		}
		if !changed {
			out = append(out, m.answer(x, bad)...)
			continue
		}
		l, ok := m.q.Propose(shard.Encode(next), m.l.Span())
		if !ok {
			m.standBy()
			return out
		}
		m.deed, m.verdict = x, bad
		out = append(out, l...)
	}
	return out
}
