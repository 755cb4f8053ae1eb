package writer_test

import (
	"math/bits"
	"math/rand"
	"slices"
	"testing"

	"tally/api"
	"tally/pace"
	"tally/replica"
	"tally/shard"
	"tally/text"
	"tally/writer"
)

// seat: a node's copy of a shard, with its writer.
type seat struct {
	r *replica.Replica
	w *writer.Writer
}

// town: all shards of a configuration, each with its copies and their writers on their nodes; and one client that asks at the node 0, as a gate does.
type town struct {
	*testing.T
	*rand.Rand
	c       api.Config
	copies  [][]int        // by shard
	seats   []map[int]seat // by shard, by node
	down    int            // a node that is down; -1: none
	way     []api.Msg
	wild    bool // messages are lost and doubled
	storers []map[api.Tag]map[int]bool
	top     []api.Tag // by shard: the greatest that is chosen
	book    []api.Book

	ask    api.Msg // what the client has asked last; no kind: it is answered
	pace   *pace.Pace
	turn   int
	answer api.Msg
}

func openTown(t *testing.T, c api.Config, r *rand.Rand) *town {
	t.Helper()
	x := &town{T: t, Rand: r, c: c, down: -1}
	for s := range c.Shards {
		x.copies = append(x.copies, copiesOf(t, c, s))
		x.seats = append(x.seats, map[int]seat{})
		x.storers = append(x.storers, map[api.Tag]map[int]bool{})
		x.top = append(x.top, api.Tag{})
		x.book = append(x.book, shard.New(c, s))
		for _, n := range x.copies[s] {
			x.seats[s][n] = seat{replica.Load(api.Stored{Value: shard.Encode(shard.New(c, s))}, api.FirstPatience), writer.New(c, n, s, 0)}
		}
	}
	return x
}

// store looks at what a copy has stored now.
func (x *town) store(s, node int) {
	kept := x.seats[s][node].r.Stored()
	who := x.storers[s][kept.Tag]
	if who == nil {
		who = map[int]bool{}
		x.storers[s][kept.Tag] = who
	}
	who[node] = true
	if 2*len(who) > x.c.Copies && less(kept.Tag, x.top[s]) > 0 {
		b, bad := shard.Decode(kept.Value)
		if bad != api.OK {
			x.Fatalf("shard %d: no book is chosen: %d", s, bad)
		}
		x.top[s], x.book[s] = kept.Tag, b
	}
}

func (x *town) send(l []api.Msg) {
	for _, m := range l {
		if x.wild && x.Intn(8) == 0 {
			continue
		}
		x.way = append(x.way, m)
		if x.wild && x.Intn(8) == 0 {
			x.way = append(x.way, m)
		}
	}
}

func (x *town) hand(m api.Msg) {
	x.Helper()
	s := m.Shard
	if m.Kind == api.MsgSettle {
		s = m.Peer
	}
	at, there := x.seats[s][m.To]
	switch {
	case m.To == x.down:
		return
	case m.Kind == api.MsgAnswer:
		if m.Call == x.ask.Call && x.ask.Kind != api.MsgNone {
			x.answer, x.ask = m, api.Msg{}
		}
		return
	case !there:
		x.Fatalf("a message to a node that has no copy: %+v", m)
	}
	h := at.r.Hear(m)
	x.store(s, m.To)
	if h.Answered {
		x.send([]api.Msg{h.Answer})
	}
	x.send(at.w.Hear(m, h.Taken))
}

func (x *town) tick(node int) {
	if node == x.down {
		return
	}
	for s := range x.seats {
		if at, there := x.seats[s][node]; there {
			at.r.Tick()
		}
	}
	for s := range x.seats {
		at, there := x.seats[s][node]
		if !there {
			continue
		}
		l, e := at.w.Tick(at.r.Wait() == 0)
		x.send(l)
		if e > 0 && at.r.Own(e) {
			x.send(at.w.Begin(e, at.r.Stored()))
		}
	}
	if node == 0 && x.ask.Kind != api.MsgNone && x.pace.Tick() {
		x.asks()
	}
}

// round: all that is on its way comes, and each node ticks 1 to d times, in any order.
func (x *town) round(d int) {
	x.Helper()
	l := x.way
	x.way = nil
	var steps []func()
	for _, m := range l {
		steps = append(steps, func() { x.hand(m) })
	}
	for node := range x.c.Nodes {
		for range 1 + x.Intn(d) {
			steps = append(steps, func() { x.tick(node) })
		}
	}
	x.Shuffle(len(steps), func(i, j int) { steps[i], steps[j] = steps[j], steps[i] })
	for _, step := range steps {
		step()
	}
}

// call opens a call; the first ask goes at once.
func (x *town) call(m api.Msg, id uint64) {
	m.Kind, m.From, m.Shard, m.Call = api.MsgAsk, 0, text.Home(m.Name, x.c.Shards), api.Call{Life: 1, ID: id}
	x.ask, x.answer, x.turn = m, api.Msg{}, 0
	x.pace, _ = pace.New(x.c.Cap)
	x.asks()
}

// asks asks the copy whose turn it is.
func (x *town) asks() {
	m := x.ask
	m.To = x.copies[m.Shard][x.turn]
	x.turn = (x.turn + 1) % x.c.Copies
	x.send([]api.Msg{m})
}

// anew: a node starts over what its copies have kept.
func (x *town) anew(node int) {
	for s := range x.seats {
		if at, there := x.seats[s][node]; there {
			kept := at.r.Stored()
			x.seats[s][node] = seat{replica.Load(kept, api.FirstPatience), writer.New(x.c, node, s, kept.Promised)}
		}
	}
}

// trouble: rounds in which messages are lost and doubled, nodes start anew, and a client pays from account to account.
func (x *town) trouble(rounds int) {
	x.wild = true
	for i := range rounds {
		if i%4 == 0 {
			one, two := names[x.Intn(len(names))], names[x.Intn(len(names))]
			x.call(api.Msg{Op: api.CallSubmit, Number: uint64(i + 1), Name: one, Other: two, Amount: uint64(1 + x.Intn(4))}, uint64(i+1))
		}
		if x.Intn(30) == 0 {
			x.anew(x.Intn(x.c.Nodes))
		}
		x.round(1 + x.Intn(3))
	}
	x.wild, x.ask = false, api.Msg{}
}

// settled tells whether all queues of the chosen books are empty, and every entry is credited.
func (x *town) settled() bool {
	for s, b := range x.book {
		if len(b.Queue) > 0 {
			return false
		}
		for peer, next := range b.Next {
			if peer != s && x.book[peer].Marks[s] != next-1 {
				return false
			}
		}
	}
	return true
}

func (x *town) money() uint64 {
	var n uint64
	for _, b := range x.book {
		for _, a := range b.Accounts {
			n += a.Balance
		}
	}
	return n
}

// settledBound is DOC.md's B.
func settledBound(c api.Config) int {
	return c.Shards*(2*c.Copies*(bits.Len(uint(c.Patience-1))+1)+2)*(3*c.Patience+20) + (c.Shards*c.Queue+2*c.Nodes*api.MaxCalls)*(c.Copies*(c.Cap+2)+40)
}

// DOC.md 'The bound', over P14.2 to P14.5: from when on nothing fails any more, with a node that is down (if each shard has a majority without it) or without, all that is on its way is settled within B rounds.
func TestSettledWithinBound(t *testing.T) {
	debts := 0
	for seed := range int64(60) {
		r := rand.New(rand.NewSource(seed))
		c := three()
		c.Nodes = 3 + r.Intn(5)
		c.Copies = []int{1, 3, 3, min(5, c.Nodes-1+c.Nodes%2)}[r.Intn(4)]
		c.Shards = 2 + r.Intn(4)
		d := 1 + r.Intn(4)
		c.Patience = 10*d + 2 + r.Intn(30)
		x := openTown(t, c, r)
		x.trouble(300)
		if c.Copies > 1 && r.Intn(2) == 0 {
			x.down = r.Intn(c.Nodes)
		}
		if !x.settled() {
			debts++
		}
		most, n := settledBound(c), 0
		for ; n < most && !x.settled(); n++ {
			x.round(d)
		}
		if !x.settled() || x.money() != uint64(10*len(c.Accounts)) {
			t.Fatalf("seed %d, %+v: behind %d rounds: settled %v, %d together: %+v", seed, c, n, x.settled(), x.money(), x.book)
		}
	}
	if debts < 30 {
		t.Errorf("only in %d of the plays there was anything to settle", debts)
	}
}

// DOC.md 'The bound', over P14.1 to P14.5: of new nodes somebody holds by round 25, and a balance that is asked in the first step is answered within Copies * (Cap + 2) + 60 rounds.
func TestReadWithinBound(t *testing.T) {
	r := rand.New(rand.NewSource(14))
	for nodes := 1; nodes <= api.MaxNodes; nodes++ {
		for copies := 1; copies <= min(nodes, api.MaxCopies); copies += 2 {
			for range 12 {
				c := three()
				c.Nodes, c.Copies, c.Shards, c.Patience, c.Cap = nodes, copies, 1+r.Intn(3), 12+r.Intn(60), 1+r.Intn(6)
				x := openTown(t, c, r)
				name := names[r.Intn(len(names))]
				x.call(api.Msg{Op: api.CallBalance, Name: name}, 1)
				seats := x.seats[x.ask.Shard]
				for n := 1; x.answer.Kind == api.MsgNone; n++ {
					x.round(1)
					if n > copies*(c.Cap+2)+60 {
						t.Fatalf("%+v: no answer behind %d rounds", c, n)
					}
					if n == 25 && !slices.ContainsFunc(x.copies[text.Home(name, c.Shards)], func(node int) bool { return seats[node].w.Holds() }) {
						t.Fatalf("%+v: nobody holds by round 25", c)
					}
				}
				if x.answer.Bad != api.OK || x.answer.Amount != 10 {
					t.Fatalf("%+v: %+v", c, x.answer)
				}
			}
		}
	}
}
