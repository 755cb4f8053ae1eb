package writer_test

import (
	"math/rand"
	"slices"
	"testing"

	"tally/api"
	"tally/replica"
	"tally/shard"
	"tally/writer"
)

// play: a shard's copies with a writer each, as P14.8 tells them, what is on its way, and what can be seen of all of it from above.
type play struct {
	*testing.T
	*rand.Rand
	c       api.Config
	nodes   []int
	copies  []*replica.Replica
	writers []*writer.Writer
	way     []api.Msg
	clear   int // of how many that are delivered one is lost

	here, all []string
	asks      []api.Msg                // what has been asked, to be asked again
	tolls     []api.Msg                // what has been settled
	values    map[api.Tag]string       // what was stored with a tag
	storers   map[api.Tag]map[int]bool // who has stored it at some time
	row       []api.Tag                // the chosen ones, in their order
	verdicts  map[api.Request]api.Errno
	reads     map[api.Call]*reading
	reached   map[string]int
}

// reading: a balance or status that was asked, once: what it asks for, and the greatest tag that a holder had known to be chosen when it came.
type reading struct {
	ask   api.Msg
	known api.Tag
}

func openPlay(t *testing.T, r *rand.Rand, copies, clear int) *play {
	t.Helper()
	c := three()
	c.Nodes, c.Copies, c.Queue, c.Patience = copies+2, copies, 4, 10
	p := &play{T: t, Rand: r, c: c, nodes: copiesOf(t, c, own), clear: clear, here: home(c, own), all: names,
		values: map[api.Tag]string{}, storers: map[api.Tag]map[int]bool{}, verdicts: map[api.Request]api.Errno{}, reads: map[api.Call]*reading{}, reached: map[string]int{}}
	for i := range p.nodes {
		p.copies = append(p.copies, replica.Load(value(first(c)), api.FirstPatience))
		p.writers = append(p.writers, writer.New(c, p.nodes[i], own, 0))
		p.store(i)
	}
	return p
}

func less(a, b api.Tag) int {
	if a.Epoch != b.Epoch {
		return int(a.Epoch) - int(b.Epoch)
	}
	return int(a.Seq) - int(b.Seq)
}

// store looks at what a copy has stored now.
func (p *play) store(i int) {
	p.Helper()
	s := p.copies[i].Stored()
	if v, there := p.values[s.Tag]; there && v != string(s.Value) {
		p.Fatalf("%v is stored with %q and with %q", s.Tag, v, s.Value)
	}
	p.values[s.Tag] = string(s.Value)
	if p.storers[s.Tag] == nil {
		p.storers[s.Tag] = map[int]bool{}
	}
	p.storers[s.Tag][i] = true
	at, there := slices.BinarySearchFunc(p.row, s.Tag, less)
	if there || 2*len(p.storers[s.Tag]) <= len(p.nodes) {
		return
	}
	p.row = slices.Insert(p.row, at, s.Tag)
	for j := max(at, 1); j <= min(at+1, len(p.row)-1); j++ {
		p.follows(p.values[p.row[j-1]], p.values[p.row[j]])
	}
}

// follows: P14.8: a value is the one ahead, or made from it by one deed.
func (p *play) follows(was, now string) {
	p.Helper()
	if was == now {
		p.reached["taken up"]++
		return
	}
	a, bad := shard.Decode([]byte(was))
	b, bad2 := shard.Decode([]byte(now))
	if bad != api.OK || bad2 != api.OK {
		p.Fatalf("no books: %q, %q", was, now)
	}
	for _, m := range p.asks {
		if m.Op == api.CallSubmit && m.Client < len(b.Slots) && b.Slots[m.Client].Number == m.Number {
			if next, _, ok := shard.Submit(p.c, a, requestOf(m)); ok && string(shard.Encode(next)) == now {
				p.reached["submits"]++
				return
			}
		}
	}
	for _, m := range p.tolls {
		if next, ok := shard.Credit(p.c, a, m.Shard, api.Entry{Peer: m.Peer, Number: m.Number, Name: m.Name, Amount: m.Amount}); ok && string(shard.Encode(next)) == now {
			p.reached["credits"]++
			return
		}
	}
	for _, e := range a.Queue {
		if next, ok := shard.Settled(a, e.Peer, e.Number); ok && string(shard.Encode(next)) == now {
			p.reached["settleds"]++
			return
		}
	}
	p.Fatalf("%+v is not made from %+v", b, a)
}

func requestOf(m api.Msg) api.Request {
	return api.Request{Op: m.Op, Client: m.Client, Number: m.Number, Name: m.Name, Other: m.Other, Amount: m.Amount}
}

// known: the greatest tag that a holder knows to be chosen.
func (p *play) known() api.Tag {
	var tag api.Tag
	for _, w := range p.writers {
		if t, _ := w.Chosen(); less(t, tag) > 0 {
			tag = t
		}
	}
	return tag
}

// send lays messages on their way; what goes elsewhere is looked at.
func (p *play) send(i int, l []api.Msg) {
	p.Helper()
	for _, m := range l {
		switch m.Kind {
		case api.MsgAnswer:
			p.answered(i, m)
		case api.MsgSettle:
			p.reached["tolls"]++
			back := api.Msg{Head: api.Head{Kind: api.MsgSettled, From: 0, To: m.From, Shard: own}, Peer: m.Peer, Number: m.Number}
			p.way = append(p.way, back)
		case api.MsgSettled:
			p.reached["told"]++
		default:
			p.way = append(p.way, m)
		}
	}
}

// answered: P14.9: one verdict for a request; a read by a chosen book that is not too old.
func (p *play) answered(i int, m api.Msg) {
	p.Helper()
	ask := p.asks[m.Call.ID]
	if ask.Op == api.CallSubmit {
		if m.Bad == api.BadOld {
			p.reached["old"]++
			return
		}
		name := api.Request{Client: ask.Client, Number: ask.Number}
		if was, there := p.verdicts[name]; there && was != m.Bad {
			p.Fatalf("client %d, number %d: %d and %d", ask.Client, ask.Number, was, m.Bad)
		}
		p.verdicts[name] = m.Bad
		p.reached["verdicts"]++
		return
	}
	r := p.reads[m.Call]
	tag, v := p.writers[i].Chosen()
	if less(tag, r.known) < 0 || !slices.Contains(p.row, tag) {
		p.Fatalf("a read is answered by %v, though %v was known to be chosen ahead of it: %v", tag, r.known, p.row)
	}
	b, _ := shard.Decode(v)
	want := api.Msg{}
	if ask.Op == api.CallBalance {
		want.Amount, want.Bad = shard.Balance(b, ask.Name)
	} else {
		want.State, want.Bad = shard.Status(b, ask.Client, ask.Number)
	}
	if m.Amount != want.Amount || m.Bad != want.Bad || m.State != want.State {
		p.Fatalf("%+v is answered with %+v, by %+v", ask, m, b)
	}
	p.reached["reads"]++
}

// hand hands a message over: to the copy first, then to the writer.
func (p *play) hand(m api.Msg) {
	p.Helper()
	i := slices.Index(p.nodes, m.To)
	h := p.copies[i].Hear(m)
	p.store(i)
	if h.Answered {
		p.send(i, []api.Msg{h.Answer})
	}
	p.send(i, p.writers[i].Hear(m, h.Taken))
}

func (p *play) tick(i int) {
	p.Helper()
	p.copies[i].Tick()
	l, e := p.writers[i].Tick(p.copies[i].Wait() == 0)
	p.send(i, l)
	if e > 0 && p.copies[i].Own(e) {
		p.reached["epochs"]++
		p.send(i, p.writers[i].Begin(e, p.copies[i].Stored()))
	}
}

// anew: a node starts over what its copy has kept.
func (p *play) anew(i int) {
	s := p.copies[i].Stored()
	p.copies[i] = replica.Load(s, api.FirstPatience)
	p.writers[i] = writer.New(p.c, p.nodes[i], own, s.Promised)
}

// ask hands over a new ask, now and then one more time what has been asked; who hears it is drawn.
func (p *play) ask() {
	p.Helper()
	m := api.Msg{Head: api.Head{Kind: api.MsgAsk, From: p.Intn(p.c.Nodes), Shard: own}, Op: 1 + p.Intn(3), Client: p.Intn(p.c.Clients)}
	m.Number = uint64(1 + p.Intn(3) + len(p.asks)/6)
	m.Name, m.Other, m.Amount = p.here[p.Intn(len(p.here))], p.all[p.Intn(len(p.all))], uint64(p.Intn(6))
	m.Call.ID = uint64(len(p.asks))
	if n := len(p.asks); n > 0 && p.Intn(3) == 0 && p.asks[n-1].Op == api.CallSubmit {
		m = p.asks[max(0, n-1-p.Intn(30))]
	} else {
		p.asks = append(p.asks, m)
	}
	m.To = p.nodes[p.Intn(len(p.nodes))]
	if m.Op != api.CallSubmit && p.reads[m.Call] == nil {
		p.reads[m.Call] = &reading{m, p.known()}
	}
	p.hand(m)
}

// toll hands over a settle: the next of its source, or one beside it.
func (p *play) toll() {
	p.Helper()
	m := api.Msg{Head: api.Head{Kind: api.MsgSettle, From: 0, To: p.nodes[p.Intn(len(p.nodes))], Shard: 2 * p.Intn(2)}, Peer: own, Name: p.here[p.Intn(len(p.here))], Amount: uint64(1 + p.Intn(3))}
	i := slices.Index(p.nodes, m.To)
	if b, ok := p.writers[i].Book(); ok {
		m.Number = b.Marks[m.Shard]
	}
	m.Number += uint64(p.Intn(3))
	p.tolls = append(p.tolls, m)
	p.hand(m)
}

func (p *play) step() {
	p.Helper()
	switch n := p.Intn(400); {
	case n == 0:
		p.anew(p.Intn(len(p.nodes)))
	case n < 60:
		p.tick(p.Intn(len(p.nodes)))
	case n < 80:
		p.ask()
	case n < 90:
		p.toll()
	case len(p.way) > 0:
		j := p.Intn(len(p.way))
		if p.Intn(4) > 0 {
			j = p.Intn(min(len(p.way), 8))
		}
		m := p.way[j]
		if p.Intn(20) > 0 {
			p.way = append(p.way[:j:j], p.way[j+1:]...)
		}
		if p.Intn(p.clear) > 0 {
			p.hand(m)
		}
	}
}

// P14.8, P14.9: whatever is lost, doubled and reordered, and however the clocks go.
func TestFollows(t *testing.T) {
	for _, n := range []int{1, 3, 5} {
		all := map[string]int{}
		for seed := range int64(60) {
			p := openPlay(t, rand.New(rand.NewSource(seed)), n, 2+int(seed%5)*10)
			for range 3000 {
				p.step()
			}
			for what, times := range p.reached {
				all[what] += times
			}
		}
		for _, what := range []string{"taken up", "submits", "credits", "settleds", "tolls", "told", "verdicts", "old", "reads", "epochs"} {
			if all[what] < 20 {
				t.Errorf("%d copies: %s: %d alone", n, what, all[what])
			}
		}
	}
}

// run ticks a node till it begins an epoch.
func (p *play) run(i int) {
	p.Helper()
	for n := p.reached["epochs"]; p.reached["epochs"] == n; {
		p.tick(i)
	}
}

// between delivers all that is on its way between those nodes, till nothing is; what goes to others is lost.
func (p *play) between(l ...int) {
	p.Helper()
	for len(p.way) > 0 {
		m := p.way[0]
		p.way = p.way[1:]
		for _, i := range l {
			if p.nodes[i] == m.To && slices.ContainsFunc(l, func(j int) bool { return p.nodes[j] == m.From }) {
				p.hand(m)
			}
		}
	}
}

// P14.9: a holder whose clock stands still does not know that another one holds: a round that began ahead of a read does not answer it, and a later one is not done any more.
func TestOldHolder(t *testing.T) {
	p := openPlay(t, rand.New(rand.NewSource(1)), 3, 2)
	for range api.FirstPatience { // till their copies keep nobody out any more
		p.tick(1)
		p.tick(2)
	}
	p.run(0)
	p.between(0, 1, 2)
	p.tick(0)
	beats := p.way
	p.way = nil
	for _, m := range beats {
		p.hand(m)
	}
	late := p.way
	p.way = nil
	p.run(1)
	p.way = nil
	p.run(2)
	p.between(1, 2)
	if !p.writers[0].Holds() || !p.writers[2].Holds() || p.writers[0].Epoch() >= p.writers[2].Epoch() {
		t.Fatal("no two holders")
	}
	tell := func(op int, i int) {
		m := api.Msg{Head: api.Head{Kind: api.MsgAsk, From: 0, To: p.nodes[i], Shard: own}, Op: op, Number: 1, Name: p.here[0], Other: p.here[1], Amount: 3, Call: api.Call{ID: uint64(len(p.asks))}}
		p.asks = append(p.asks, m)
		p.reads[m.Call] = &reading{m, p.known()}
		p.hand(m)
	}
	tell(api.CallSubmit, 2)
	p.between(1, 2)
	if p.reached["verdicts"] != 1 {
		t.Fatal("the new holder has not answered")
	}
	tell(api.CallBalance, 0)
	tell(api.CallStatus, 0)
	for _, m := range late {
		p.hand(m)
	}
	if _, done := p.writers[0].Round(); done != 1 || !p.writers[0].Holds() {
		t.Fatal("the round is not done")
	}
	p.tick(0)
	p.between(0, 1, 2)
	if p.reached["reads"] != 0 || p.writers[0].Holds() {
		t.Fatalf("%d reads have been answered", p.reached["reads"])
	}
	tell(api.CallBalance, 2)
	p.tick(2)
	p.between(0, 1, 2)
	if p.reached["reads"] != 1 {
		t.Fatal("the new holder has not read")
	}
}
