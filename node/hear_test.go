package node_test

import (
	"bytes"
	"fmt"
	"math/rand"
	"slices"
	"testing"

	"tally/api"
	"tally/node"
)

// oneOfEach: a message of each kind about a shard (a settle is about its Peer).
func oneOfEach(from, to, shard int) []api.Msg {
	source := (shard + 1) % api.MaxShards
	return []api.Msg{
		prepare(from, to, shard, 70), promise(from, to, shard, 2, stored(0, 0, 0, "v")), refuse(from, to, shard, 2, 80), write(from, to, shard, 70, 1, "v", 3),
		wrote(from, to, shard, 2, 1), beat(from, to, shard, 70, 1, 3), beaten(from, to, shard, 2, 1), settle(from, to, source, shard, 1, "al", 1),
		settled(from, to, shard, source, 1), ask(from, to, shard, 1, 1, balance("al")), answer(from, to, shard, 1, 1, 9),
	}
}

// nothing makes a node hear bytes of which nothing comes.
func nothing(t *testing.T, what string, n *node.Node, b []byte) {
	t.Helper()
	if l, done, e := n.Hear(b); len(l) != 0 || len(done) != 0 || e != api.OK {
		t.Fatalf("%s: Hear(%x): %v, %v, %d", what, b, l, done, e)
	}
}

// P16.3: bytes that are no message do nothing: one bit turned, bytes too many or too few.
func TestNoMessage(t *testing.T) {
	c, d := conf(), empty(t)
	n := start(t, c, 1, d)
	lapse(t, n, 4)
	n.Call(balance("al"))
	strokes := d.Strokes()
	for _, m := range oneOfEach(0, 1, 0) {
		b := say(t, m)
		for i := range b {
			nothing(t, "cut", n, b[:i])
			x := bytes.Clone(b)
			x[i] ^= 1 << (i % 8)
			nothing(t, "a bit", n, x)
		}
		nothing(t, "a byte more", n, append(b, 0))
	}
	nothing(t, "none", n, nil)
	nothing(t, "long", n, make([]byte, 1<<20))
	if d.Strokes() != strokes {
		t.Errorf("%d strokes", d.Strokes()-strokes)
	}
	// Its turn comes as if nothing had been.
	ticks(t, "ask", n, ask(1, 2, 0, 1, 1, balance("al")))
	l, e := n.Tick()
	if e != api.OK || len(l) != 5 {
		t.Errorf("its turn: %v", l)
	}
}

// P16.3: messages to other nodes do nothing, whatever they are.
func TestNotToIt(t *testing.T) {
	c, d := conf(), empty(t)
	n := start(t, c, 1, d)
	lapse(t, n, 4)
	n.Call(balance("al"))
	strokes := d.Strokes()
	for to := range api.MaxNodes {
		for from := range api.MaxNodes {
			for _, m := range oneOfEach(from, to, 0) {
				if to != 1 {
					nothing(t, "not to it", n, say(t, m))
				}
			}
		}
	}
	if x, _ := n.Stored(0); x.Promised != 0 || d.Strokes() != strokes {
		t.Errorf("%d strokes, %v", d.Strokes()-strokes, x)
	}
	if _, done, _ := n.Hear(say(t, answer(7, 1, 0, 1, 1, 9))); !slices.Equal(done, []api.Done{{Node: 1, ID: 1, Amount: 9}}) {
		t.Errorf("the answer: %v", done)
	}
}

// P16.3: messages about shards of which the node has no copy do nothing, but for an answer.
func TestAnothersShard(t *testing.T) {
	c := conf()
	c.Nodes, c.Copies, c.Shards = 5, 1, 3 // the copies: 3, 4, 0
	for me := range 5 {
		for s := range api.MaxShards {
			d := empty(t)
			n := start(t, c, me, d)
			strokes := d.Strokes()
			its := s < c.Shards && copiesOf(t, c, s)[0] == me
			id, _, _ := n.Call(balance("al"))
			for _, m := range oneOfEach((me+1)%5, me, s) {
				l, done, e := n.Hear(say(t, m))
				if e != api.OK || (m.Kind == api.MsgAnswer) != (len(done) == 1) {
					t.Fatalf("node %d, shard %d, %s: %v, %d", me, s, tell(m), done, e)
				}
				if !its && len(l) != 0 {
					t.Fatalf("node %d, shard %d, %s: %s", me, s, tell(m), spell(t, l))
				}
			}
			if moved := d.Strokes() > strokes; moved != its || id != 1 {
				t.Errorf("node %d, shard %d: moved %v", me, s, moved)
			}
		}
	}
}

// runs is node 1 of one shard, which has just begun epoch 2.
func runs(t *testing.T, c api.Config) *node.Node {
	t.Helper()
	n := start(t, c, 1, empty(t))
	lapse(t, n, 5)
	ticks(t, "its turn", n, prepare(1, 0, 0, 2), prepare(1, 2, 0, 2))
	role(t, "its turn", n, 0, api.PhasePreparing, false, 2)
	return n
}

func single() api.Config {
	c := conf()
	c.Shards = 1
	return c
}

// holds is that node, which holds with the first book.
func holds(t *testing.T, c api.Config) *node.Node {
	t.Helper()
	n := runs(t, c)
	v := firstValue(c, 0)
	w := func(to int) api.Msg { return write(1, to, 0, 2, 1, v, 9) }
	hears(t, "a promise", n, promise(0, 1, 0, 2, stored(0, 0, 0, v)), w(0), w(2), w(1))
	role(t, "a majority", n, 0, api.PhaseWriting, false, 2)
	hears(t, "its own write", n, w(1), wrote(1, 1, 0, 2, 1))
	hears(t, "its own wrote", n, wrote(1, 1, 0, 2, 1))
	role(t, "its own wrote", n, 0, api.PhaseWriting, false, 2)
	hears(t, "a wrote", n, wrote(2, 1, 0, 2, 1))
	role(t, "a majority", n, 0, api.PhaseReady, true, 2)
	return n
}

// P16.3: a copy's promise, refuse and wrote are the writer's.
func TestCopiesAnswers(t *testing.T) {
	c := single()
	n := runs(t, c)
	hears(t, "a refuse of another epoch", n, refuse(0, 1, 0, 1, 1))
	role(t, "a refuse of another epoch", n, 0, api.PhasePreparing, false, 2)
	hears(t, "a refuse", n, refuse(0, 1, 0, 2, 30))
	role(t, "a refuse", n, 0, api.PhaseIdle, false, 0)
	n = holds(t, c)
	hears(t, "one refuse", n, refuse(0, 1, 0, 2, 30))
	role(t, "one refuse", n, 0, api.PhaseReady, true, 2)
	hears(t, "another one", n, refuse(2, 1, 0, 2, 30))
	role(t, "another one", n, 0, api.PhaseIdle, false, 0)
}

// P16.3: a prepare, write or beat is heard by the copy, and then by the writer, with whether the copy has taken it.
func TestRivals(t *testing.T) {
	c := single()
	n := runs(t, c)
	hears(t, "a beat of its epoch", n, beat(0, 1, 0, 2, 1, 5), beaten(1, 0, 0, 2, 1))
	role(t, "a beat of its epoch", n, 0, api.PhasePreparing, false, 2)
	hears(t, "a prepare, kept out", n, prepare(0, 1, 0, 9), refuse(1, 0, 0, 9, 2))
	role(t, "a prepare, kept out", n, 0, api.PhaseIdle, false, 0)
	for _, m := range []api.Msg{prepare(0, 1, 0, 9), write(0, 1, 0, 9, 1, "v", 5), beat(0, 1, 0, 9, 1, 5)} {
		n := runs(t, c)
		if l, _, e := n.Hear(say(t, m)); len(l) != 1 || e != api.OK {
			t.Fatalf("%s: %v, %d", tell(m), l, e)
		}
		role(t, tell(m), n, 0, api.PhaseIdle, false, 0)
		n = holds(t, c)
		if l, _, e := n.Hear(say(t, m)); len(l) != 1 || e != api.OK {
			t.Fatalf("%s: %v, %d", tell(m), l, e)
		}
		if m.Kind == api.MsgPrepare {
			role(t, tell(m), n, 0, api.PhaseReady, true, 2)
		} else {
			role(t, tell(m), n, 0, api.PhaseIdle, false, 0)
		}
	}
}

// P16.3: what the copy has taken makes the writer wait anew; what it has refused does not.
func TestTaken(t *testing.T) {
	c := single()
	for _, e := range []struct {
		m    api.Msg
		wait int // with which tick from then on its own epoch begins
	}{
		{write(0, 1, 0, 49, 1, "v", 0), 2}, {write(0, 1, 0, 50, 1, "v", 0), 4}, {write(0, 1, 0, 50, 0, "v", 0), 4},
		{beat(0, 1, 0, 49, 1, 0), 2}, {beat(0, 1, 0, 50, 1, 0), 4}, {write(1, 1, 0, 50, 1, "v", 0), 2}, {write(0, 1, 0, 50, 1, "v", 6), 6},
	} {
		n := start(t, c, 1, empty(t))
		lapse(t, n, 4)
		if l, _, _ := n.Hear(say(t, prepare(0, 1, 0, 50))); len(l) != 1 {
			t.Fatalf("%v", l)
		}
		lapse(t, n, 2)
		n.Hear(say(t, e.m))
		lapse(t, n, e.wait-1)
		ticks(t, tell(e.m), n, prepare(1, 0, 0, 53), prepare(1, 2, 0, 53))
	}
}

// P16.3: beats are answered to the writer, asks are its too; what it answers goes out.
func TestAsksOfAHolder(t *testing.T) {
	c := single()
	n := holds(t, c)
	hears(t, "a balance", n, ask(2, 1, 0, 5, 6, balance("al")))
	ticks(t, "a round", n, beat(1, 0, 0, 2, 1, 9), beat(1, 2, 0, 2, 1, 9), beat(1, 1, 0, 2, 1, 9))
	hears(t, "its own beat", n, beat(1, 1, 0, 2, 1, 9), beaten(1, 1, 0, 2, 1))
	hears(t, "its own beaten", n, beaten(1, 1, 0, 2, 1))
	hears(t, "a beaten", n, beaten(0, 1, 0, 2, 1), answer(1, 2, 0, 5, 6, 100))
	idle := start(t, c, 0, empty(t))
	hears(t, "who does not hold", idle, ask(2, 0, 0, 5, 6, balance("al")))
}

// P16.3: what a prepare, write or beat tells is its answer first; of a single copy all messages go to the node itself.
func TestSingleCopy(t *testing.T) {
	c := conf()
	c.Nodes, c.Copies = 1, 1
	n := start(t, c, 0, empty(t))
	v := []string{firstValue(c, 0), firstValue(c, 1)}
	lapse(t, n, 3)
	ticks(t, "both begin", n, write(0, 0, 0, 1, 1, v[0], 9), write(0, 0, 1, 1, 1, v[1], 9))
	hears(t, "shard 1", n, write(0, 0, 1, 1, 1, v[1], 9), wrote(0, 0, 1, 1, 1))
	hears(t, "shard 1", n, wrote(0, 0, 1, 1, 1))
	role(t, "shard 1", n, 1, api.PhaseReady, true, 1)
	role(t, "shard 0", n, 0, api.PhaseWriting, false, 1)
	hears(t, "shard 0", n, write(0, 0, 0, 1, 1, v[0], 9), wrote(0, 0, 0, 1, 1))
	hears(t, "shard 0", n, wrote(0, 0, 0, 1, 1))
	role(t, "shard 0", n, 0, api.PhaseReady, true, 1)
}

// story: two shards, each in one copy at its own node; node 4 has none of them.
type story struct {
	*testing.T
	nodes map[int]*node.Node
}

// goes hands flights to the nodes to which they go, again and again, and answers the kinds that have gone, and what is done; each stands with its sender and the shard that it names.
func (s story) goes(l []api.Flight) ([]string, []api.Done) {
	s.Helper()
	var out []string
	var all []api.Done
	for len(l) > 0 {
		f := l[0]
		more, done, e := s.nodes[f.To].Hear(f.Bytes)
		if e != api.OK {
			s.Fatalf("Hear: %d", e)
		}
		out = append(out, fmt.Sprintf("kind %d to %d about %d", f.Bytes[0], f.To, f.Bytes[3]))
		all = append(all, done...)
		l = append(l[1:], more...)
	}
	return out, all
}

// P16.3, P16.4: a payment from the shard of one node to the shard of another, called at a third: a settle is about its Peer, a settled about its Shard.
func TestPayment(t *testing.T) {
	c := conf()
	c.Nodes, c.Copies = 5, 1
	s := story{t, map[int]*node.Node{3: start(t, c, 3, empty(t)), 4: start(t, c, 4, empty(t)), 0: start(t, c, 0, empty(t))}}
	tick := func(who int) []api.Flight {
		l, e := s.nodes[who].Tick()
		if e != api.OK {
			t.Fatalf("Tick: %d", e)
		}
		return l
	}
	for range 6 {
		for _, who := range []int{3, 4} {
			s.goes(tick(who))
		}
	}
	role(t, "shard 0", s.nodes[3], 0, api.PhaseReady, true, 1)
	role(t, "shard 1", s.nodes[4], 1, api.PhaseReady, true, 1)
	_, l, _ := s.nodes[0].Call(submit(1, "al", "Zed", 30))
	way, done := s.goes(l)
	if want := []string{"kind 10 to 3 about 0", "kind 4 to 3 about 0", "kind 5 to 3 about 0", "kind 11 to 0 about 0"}; !slices.Equal(way, want) || !slices.Equal(done, []api.Done{{Node: 0, ID: 1}}) {
		t.Fatalf("the call: %v, %v", way, done)
	}
	l = tick(3)
	way, _ = s.goes(l[len(l)-1:])
	want := []string{"kind 8 to 4 about 0", "kind 4 to 4 about 1", "kind 5 to 4 about 1", "kind 9 to 3 about 0", "kind 4 to 3 about 0", "kind 5 to 3 about 0"}
	if !slices.Equal(way, want) {
		t.Fatalf("the settle: %v, want %v", way, want)
	}
	// A settle whose source is this node's shard, and whose Peer is not, does nothing; nor a settled about the other's shard.
	nothing(t, "a settle", s.nodes[3], say(t, settle(4, 3, 0, 1, 2, "Zed", 1)))
	nothing(t, "a settled", s.nodes[4], say(t, settled(3, 4, 0, 1, 1)))
	hears(t, "a settle again", s.nodes[4], settle(3, 4, 0, 1, 1, "Zed", 30), settled(4, 3, 0, 1, 1))
	for _, a := range []api.Account{{Name: "al", Balance: 70}, {Name: "Zed", Balance: 80}, {Name: "zoe", Balance: 7}} {
		_, l, _ := s.nodes[0].Call(balance(a.Name))
		_, done := s.goes(l)
		// The second tick begins a round of beats, if the first has found one under way.
		for range 2 {
			for _, who := range []int{3, 4} {
				_, more := s.goes(tick(who))
				done = append(done, more...)
			}
		}
		if len(done) != 1 || done[0].Amount != a.Balance || done[0].Bad != api.OK {
			t.Errorf("%s: %v", a.Name, done)
		}
	}
}

// R1, P16.10: whatever bytes come, the call ends; what it answers is as for a message that can't be of this cluster.
func TestOddMessages(t *testing.T) {
	r := rand.New(rand.NewSource(1610))
	c := conf()
	for range 60 {
		n := start(t, c, 1, empty(t))
		for range 200 {
			m := oddMessage(r)
			l, done, e := n.Hear(say(t, m))
			if most := c.Copies + 2*api.MaxAsks + c.Shards + 1; e != api.OK || len(l) > most || len(done) > 1 {
				t.Fatalf("%s: %d flights, %v, %d", tell(m), len(l), done, e)
			}
			if r.Intn(3) == 0 {
				tickWithin(t, n, c, 2)
			}
			odd := func() int { return []int{-1 << 63, -1, 0, 1, 2, 3, 8, 1<<63 - 1}[r.Intn(8)] }
			n.Call(api.Request{Op: odd(), Client: odd(), Number: uint64(odd()), Name: "al", Other: "\xff", Amount: uint64(odd())})
			n.Stored(odd())
			n.Role(odd())
		}
	}
}

func tickWithin(t *testing.T, n *node.Node, c api.Config, shards int) []api.Flight {
	t.Helper()
	l, e := n.Tick()
	if e != api.OK || len(l) > shards*(2*c.Copies+c.Shards)+api.MaxCalls {
		t.Fatalf("Tick: %d flights, %d", len(l), e)
	}
	return l
}

// oddMessage: any message that can be told in bytes, whatever it means.
func oddMessage(r *rand.Rand) api.Msg {
	number := func() uint64 {
		l := []uint64{0, 1, 2, 3, 4, 5, 8, api.MaxNumber - 1, api.MaxNumber, r.Uint64() % 20}
		return l[r.Intn(len(l))]
	}
	m := api.Msg{Head: head(1+r.Intn(11), r.Intn(api.MaxNodes), 1, r.Intn(3))}
	if r.Intn(8) == 0 {
		m.Shard = r.Intn(api.MaxShards)
	}
	value := [][]byte{nil, []byte("v"), []byte(firstValue(conf(), 0)), []byte(firstValue(conf(), 1)), make([]byte, api.MaxValue)}[r.Intn(5)]
	tag := api.Tag{Epoch: number(), Seq: number()}
	span := []int{0, 1, 2, 5, api.MaxPatience + 1}[r.Intn(5)]
	h := m.Head
	name := []string{"", "al", "Zed", "\xff"}[r.Intn(4)]
	switch m.Kind {
	case api.MsgPrepare:
		return api.Msg{Head: h, Epoch: number()}
	case api.MsgPromise:
		return api.Msg{Head: h, Epoch: number(), Tag: tag, Value: value}
	case api.MsgRefuse:
		return api.Msg{Head: h, Epoch: number(), Seen: number()}
	case api.MsgWrite:
		return api.Msg{Head: h, Tag: tag, Value: value, Span: span}
	case api.MsgWrote:
		return api.Msg{Head: h, Tag: tag}
	case api.MsgBeat:
		return api.Msg{Head: h, Epoch: number(), Round: number(), Span: span}
	case api.MsgBeaten:
		return api.Msg{Head: h, Epoch: number(), Round: number()}
	case api.MsgSettle:
		return api.Msg{Head: h, Peer: r.Intn(api.MaxShards), Number: number(), Name: name, Amount: number()}
	case api.MsgSettled:
		return api.Msg{Head: h, Peer: r.Intn(api.MaxShards), Number: number()}
	case api.MsgAsk:
		return api.Msg{Head: h, Number: number(), Name: name, Other: "zoe", Amount: number(), Call: api.Call{Life: number(), ID: number()}, Op: r.Intn(4), Client: r.Intn(2)}
	}
	return api.Msg{Head: h, Amount: number(), Call: api.Call{Life: 1, ID: number()}, State: r.Intn(5), Bad: []api.Errno{0, api.BadFunds}[r.Intn(2)]}
}
