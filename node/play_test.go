package node_test

import (
	"bytes"
	"fmt"
	"math/rand"
	"slices"
	"testing"

	"tally/api"
	"tally/disk"
	"tally/message"
	"tally/node"
)

// seat: a node of a play with its disk, and a plain one beside it with a disk of its own.
type seat struct {
	n     *node.Node
	p     *plain
	d, pd *disk.Disk
	life  uint64           // the last one that Start has answered
	lost  uint64           // how many later starts the power has gone off in, having kept their life
	sent  map[int]standing // by shard: what must stand
}

// standing: the greatest epoch and the greatest tag that a node has told of a copy.
type standing struct {
	epoch uint64
	tag   api.Tag
}

// play: a cluster whose messages are lost, doubled and reordered, and whose nodes lose their power in the midst of all that they do. alike: the power of the plain nodes goes off with that of the nodes; else never.
type play struct {
	*testing.T
	*rand.Rand
	c      api.Config
	alike  bool
	seats  []*seat
	way    []api.Flight
	values map[string]string // by shard and tag
	names  map[string]bool   // of calls
	downs  int
	tells  int
}

func newPlay(t *testing.T, r *rand.Rand, alike bool) *play {
	nodes := 1 + r.Intn(5)
	c := conf()
	c.Nodes, c.Copies, c.Shards, c.Patience = nodes, 1+2*r.Intn((nodes+1)/2), 1+r.Intn(3), 12+r.Intn(20)
	p := &play{T: t, Rand: r, c: c, alike: alike, values: map[string]string{}, names: map[string]bool{}}
	for i := range nodes {
		s := &seat{d: empty(t), pd: empty(t), sent: map[int]standing{}}
		p.seats = append(p.seats, s)
		p.start(i)
	}
	return p
}

// start starts node i over its disk, now and then with the power going off in the midst, till it has started.
func (p *play) start(i int) {
	p.Helper()
	s := p.seats[i]
	for {
		s.pd = load(p.T, s.d.Crash([]int{-1, -1, -1, -1}))
		off := 0
		if p.Intn(4) == 0 {
			off = 1 + p.Intn(5)
		}
		s.d.Plan(api.Plan{Off: off})
		if p.alike {
			s.pd.Plan(api.Plan{Off: off})
		}
		var e, pe api.Errno
		s.n, e = node.Start(p.c, i, s.d)
		s.p, pe = startPlain(p.T, p.c, i, s.pd)
		if p.alike && e != pe || e != api.OK && (e != api.ErrDiskOff || s.n != nil) {
			p.Fatalf("Start: %d, want %d", e, pe)
		}
		if e != api.ErrDiskOff {
			break
		}
		p.powerOff(i)
		if p.lifeKept(i) > s.life+s.lost {
			s.lost++
		}
	}
	s.d.Plan(api.Plan{})
	s.pd.Plan(api.Plan{})
	// P16.9: the life.
	if s.n.Life() != s.life+s.lost+1 || s.n.Life() != s.p.life {
		p.Fatalf("life %d behind %d and %d", s.n.Life(), s.life, s.lost)
	}
	s.life, s.lost = s.n.Life(), 0
}

func (p *play) lifeKept(i int) uint64 {
	life, _, ok := plainTale(p.T, p.c, i, all(p.T, p.seats[i].d))
	if !ok {
		p.Fatal("the journal may not be")
	}
	return life
}

// powerOff leaves of the disk what is drawn.
func (p *play) powerOff(i int) {
	s := p.seats[i]
	picks := []int{p.Intn(5), p.Intn(300), p.Intn(300)}
	img := s.d.Crash(picks)
	if p.alike && fmt.Sprint(img) != fmt.Sprint(s.pd.Crash(picks)) {
		p.Fatalf("left: %v, want %v", img, s.pd.Crash(picks))
	}
	s.d = load(p.T, img)
}

// crash lets the power of node i go off, between two events or in the midst of one (down), and starts it again: P16.9.
func (p *play) crash(i int, was map[int]api.Stored, down bool) {
	p.Helper()
	s := p.seats[i]
	if down {
		p.downs++
		isDown(p.T, "off", s.n, s.life)
	}
	changed := map[int]api.Stored{}
	for k := range p.c.Shards {
		changed[k], _ = s.p.stored(k)
	}
	p.powerOff(i)
	for k, x := range was {
		got, ok := node.Kept(p.c, i, s.d, k)
		// (Beside an alike plain node nobody knows what would have been.)
		if !ok || !same(got, x) && !(down && p.alike) && !same(got, changed[k]) {
			p.Fatalf("shard %d: %v is left of %v, or of %v", k, got, x, changed[k])
		}
	}
	p.start(i)
	for k := range was {
		x, _ := s.n.Stored(k)
		p.stands(i, k, x)
	}
}

// stands holds what a copy has against all that its node has sent of it, and a tag's value against what any copy had with it.
func (p *play) stands(i, k int, x api.Stored) {
	p.Helper()
	was := p.seats[i].sent[k]
	if x.Promised < was.epoch || x.Tag.Epoch < was.tag.Epoch || x.Tag.Epoch == was.tag.Epoch && x.Tag.Seq < was.tag.Seq {
		p.Fatalf("node %d has sent %v of shard %d, and has %v", i, was, k, x)
	}
	p.oneValue(k, x.Tag, x.Value)
}

func (p *play) oneValue(k int, tag api.Tag, value []byte) {
	p.Helper()
	name := fmt.Sprint(k, tag)
	if v, there := p.values[name]; there && v != string(value) {
		p.Fatalf("the tag %v of shard %d had %x, has %x", tag, k, v, value)
	}
	p.values[name] = string(value)
}

// note notes what a node has sent: what it tells of its own copy must stand from then on.
func (p *play) note(i int, l []api.Flight) {
	p.Helper()
	for _, f := range l {
		m, e := message.Decode(f.Bytes)
		if e != api.OK || m.To != f.To || m.From != i {
			p.Fatalf("node %d sends to %d: %s, %d", i, f.To, tell(m), e)
		}
		p.tells++
		x := p.seats[i].sent[m.Shard]
		switch m.Kind {
		case api.MsgPromise, api.MsgBeaten, api.MsgPrepare:
			x.epoch = max(x.epoch, m.Epoch)
		case api.MsgWrote:
			x.epoch = max(x.epoch, m.Tag.Epoch)
			if m.Tag.Epoch > x.tag.Epoch || m.Tag.Epoch == x.tag.Epoch && m.Tag.Seq > x.tag.Seq {
				x.tag = m.Tag
			}
		case api.MsgWrite:
			p.oneValue(m.Shard, m.Tag, m.Value)
		default:
			continue
		}
		p.seats[i].sent[m.Shard] = x
	}
	p.way = append(p.way, l...)
}

// plan draws a plan for the disk of node i.
func (p *play) plan(i int) {
	s := p.seats[i]
	var plan api.Plan
	if p.Intn(5) == 0 {
		plan.Off = 1 + p.Intn(4)
	}
	s.d.Plan(plan)
	if p.alike {
		s.pd.Plan(plan)
	}
}

// agree holds an answer of node i against the plain node's; true: the node has gone down.
func (p *play) agree(what string, i int, l []api.Flight, e api.Errno, want []api.Msg, pe api.Errno, most int) bool {
	p.Helper()
	if e == api.ErrNodeDown {
		if p.alike && pe != e || len(l) != 0 {
			p.Fatalf("%s: %v, %d, want %d", what, l, e, pe)
		}
		return true
	}
	if e != pe || len(l) > most {
		p.Fatalf("%s: %d, %d flights, want %d", what, e, len(l), pe)
	}
	p.tie(what, l, want)
	p.note(i, l)
	return false
}

// tie compares as bytes, since spelling them is slow.
func (p *play) tie(what string, got []api.Flight, want []api.Msg) {
	p.Helper()
	ok := len(got) == len(want)
	for k := 0; ok && k < len(got); k++ {
		b, e := message.Encode(want[k])
		ok = e == api.OK && got[k].To == want[k].To && bytes.Equal(got[k].Bytes, b)
	}
	if !ok {
		are(p.T, what, got, want...)
		p.Fatalf("%s: %d flights, want %d", what, len(got), len(want))
	}
}

// event is one step at node i; do tells whether the node has gone down by it.
func (p *play) event(i int, do func(s *seat) bool) {
	p.Helper()
	s := p.seats[i]
	was := copies(s, p.c)
	p.plan(i)
	if do(s) {
		p.crash(i, was, true)
		return
	}
	s.d.Plan(api.Plan{})
	s.pd.Plan(api.Plan{})
	for k := range p.c.Shards {
		x, ok := s.n.Stored(k)
		want, its := s.p.stored(k)
		if ok != its || !same(x, want) {
			p.Fatalf("Stored(%d): %v, want %v", k, x, want)
		}
		phase, holds, epoch := s.n.Role(k)
		if a, b, c := s.p.role(k); a != phase || b != holds || c != epoch {
			p.Fatalf("Role(%d): %d, %v, %d, want %d, %v, %d", k, phase, holds, epoch, a, b, c)
		}
		if ok {
			p.stands(i, k, x)
		}
	}
	if p.Intn(40) == 0 {
		p.crash(i, copies(s, p.c), false)
	}
}

// copies is what a node's copies have now.
func copies(s *seat, c api.Config) map[int]api.Stored {
	out := map[int]api.Stored{}
	for k := range c.Shards {
		if x, ok := s.n.Stored(k); ok {
			out[k] = x
		}
	}
	return out
}

func (p *play) tick(i int) {
	p.Helper()
	p.event(i, func(s *seat) bool {
		l, e := s.n.Tick()
		want, pe := s.p.tick()
		return p.agree("Tick", i, l, e, want, pe, len(s.p.shards)*(2*p.c.Copies+p.c.Shards)+api.MaxCalls)
	})
}

// hear tells what is done by it.
func (p *play) hear(f api.Flight) []api.Done {
	p.Helper()
	var out []api.Done
	p.event(f.To, func(s *seat) bool {
		l, done, e := s.n.Hear(f.Bytes)
		want, wantDone, pe := s.p.hear(f.Bytes)
		if e == api.OK && !slices.Equal(done, wantDone) || e != api.OK && len(done) != 0 {
			p.Fatalf("Hear: %v, want %v", done, wantDone)
		}
		out = done
		return p.agree("Hear", f.To, l, e, want, pe, p.c.Copies+2*api.MaxAsks+p.c.Shards+1)
	})
	return out
}

func (p *play) call(i int, r api.Request) bool {
	p.Helper()
	open := false
	p.event(i, func(s *seat) bool {
		id, l, e := s.n.Call(r)
		wantID, want, pe := s.p.call(r)
		open = e == api.OK
		if name := fmt.Sprint(i, s.life, id); open && p.names[name] || id != wantID && e != api.ErrNodeDown {
			p.Fatalf("Call: the id %d, want %d", id, wantID)
		} else if open {
			p.names[name] = true
		}
		return p.agree("Call", i, l, e, want, pe, 1)
	})
	return open
}

// deliver hands over one that is on its way; now and then it is lost or stays, too.
func (p *play) deliver() {
	p.Helper()
	at := p.Intn(len(p.way))
	f := p.way[at]
	if p.Intn(6) > 0 {
		p.way = slices.Delete(p.way, at, at+1)
	}
	if p.Intn(10) > 0 {
		p.hear(f)
	}
}

func (p *play) step() {
	p.Helper()
	i := p.Intn(len(p.seats))
	names := []string{"al", "Zed", "zoe", "nobody"}
	switch n := p.Intn(30); {
	case n < 6:
		p.tick(i)
	case n == 6:
		p.call(i, submit(1+uint64(p.Intn(40)), names[p.Intn(3)], names[p.Intn(4)], uint64(p.Intn(40))))
	case n == 7:
		p.call(i, balance(names[p.Intn(4)]))
	case len(p.way) > 0:
		p.deliver()
	}
	if len(p.way) > 400 {
		p.way = p.way[200:]
	}
}

// P16.2 to P16.6, P16.9, P16.10: plays, each answer held against a second telling of the chapter; the power of both goes off at the same strokes.
func TestDrawnPlays(t *testing.T) {
	r := rand.New(rand.NewSource(1))
	downs, tells := 0, 0
	for range 80 {
		p := newPlay(t, r, true)
		for range 1000 {
			p.step()
		}
		downs, tells = downs+p.downs, tells+p.tells
	}
	if downs < 200 || tells < 20000 {
		t.Errorf("only %d nodes down, %d flights", downs, tells)
	}
}

// P16.9: plays in which the plain nodes tell what a call would have changed: what is left is what was ahead of the call, or that.
func TestStands(t *testing.T) {
	r := rand.New(rand.NewSource(9))
	downs := 0
	for range 80 {
		p := newPlay(t, r, false)
		for range 1000 {
			p.step()
		}
		downs += p.downs
	}
	if downs < 200 {
		t.Errorf("only %d nodes down", downs)
	}
}

// P16.9: behind all that, when nothing fails any more, the balances of all accounts are together what they were at first.
func TestNothingIsLost(t *testing.T) {
	r := rand.New(rand.NewSource(2))
	for range 25 {
		p := newPlay(t, r, true)
		for range 1500 {
			p.step()
		}
		w := calmed(p)
		w.rounds(600)
		var sum uint64
		for _, a := range p.c.Accounts {
			sum += w.balance(a.Name)
		}
		if sum != 157 {
			t.Errorf("all accounts have %d together", sum)
		}
	}
}

// calm: nodes to which nothing happens any more, over what a play has left.
type calm struct {
	*play
	done []api.Done
}

func calmed(p *play) *calm {
	p.way = nil
	for i, s := range p.seats {
		s.d = load(p.T, s.d.Crash(nil))
		s.n = start(p.T, p.c, i, s.d)
	}
	return &calm{play: p}
}

func (w *calm) rounds(n int) {
	w.Helper()
	for range n {
		for _, s := range w.seats {
			l, e := s.n.Tick()
			if e != api.OK {
				w.Fatalf("Tick: %d", e)
			}
			w.way = append(w.way, l...)
		}
		for range len(w.way) {
			f := w.way[0]
			l, done, e := w.seats[f.To].n.Hear(f.Bytes)
			if e != api.OK {
				w.Fatalf("Hear: %d", e)
			}
			w.way, w.done = append(w.way[1:], l...), append(w.done, done...)
		}
	}
}

func (w *calm) balance(name string) uint64 {
	w.Helper()
	w.done = nil
	_, l, e := w.seats[0].n.Call(balance(name))
	if e != api.OK {
		w.Fatalf("Call: %d", e)
	}
	w.way = append(w.way, l...)
	w.rounds(100)
	if len(w.done) != 1 || w.done[0].Bad != api.OK {
		w.Fatalf("%s: %v", name, w.done)
	}
	return w.done[0].Amount
}
