package gate_test

import (
	"math"
	"strings"
	"testing"

	"tally/api"
	"tally/plane"
	"tally/text"
)

// P15.1: no call is open at first, nothing is asked, and the first id is 1, in whatever life.
func TestNew(t *testing.T) {
	for _, life := range []uint64{0, 1, 7, api.MaxNumber, api.MaxNumber + 1, math.MaxUint64} {
		for node := range 3 {
			g := open(t, three(), node, life)
			if g.Open() != 0 {
				t.Errorf("%d calls are open", g.Open())
			}
			same(t, "new", g.Tick())
			hears(t, "new", g, answer(life, 0))
			hears(t, "new", g, answer(life, 1))
			goes(t, "the first", g, balance(0, "ann"), 1, ask(node, 0, 0, life, 1, balance(0, "ann")))
			hears(t, "its answer", g, answer(life, 1), api.Done{Node: node, ID: 1})
		}
	}
}

// P15.2, P15.4: the chapter's first example.
func TestRounds(t *testing.T) {
	g := open(t, three(), 1, 7)
	r := balance(1, "ann")
	r.Number = 5
	goes(t, "the call", g, r, 1, ask(1, 0, 0, 7, 1, balance(1, "ann")))
	for i, to := range []int{2, 1, -1, 0, -1, -1, -1, 2, -1, -1, -1, 1, -1, -1, -1, 0} {
		if got := g.Tick(); to >= 0 {
			same(t, "a tick that is a time", got, ask(1, to, 0, 7, 1, balance(1, "ann")))
		} else if len(got) != 0 {
			t.Fatalf("tick %d: %q", i+1, spellAll(got))
		}
	}
}

// P15.3: the chapter's second example.
func TestHear(t *testing.T) {
	g := open(t, three(), 1, 7)
	goes(t, "the call", g, balance(1, "ann"), 1, ask(1, 0, 0, 7, 1, balance(1, "ann")))
	hears(t, "another life", g, answer(6, 1))
	hears(t, "another id", g, answer(7, 2))
	m := answer(7, 1)
	m.Amount = 9
	hears(t, "the answer", g, m, api.Done{Node: 1, ID: 1, Amount: 9})
	hears(t, "again", g, m)
	if g.Open() != 0 {
		t.Errorf("%d calls are open", g.Open())
	}
	same(t, "answered", g.Tick())
}

// P15.2: the chapter's third example.
func TestWrongCalls(t *testing.T) {
	g := open(t, three(), 1, 7)
	wrong := []api.Request{submit(0, 0, "ann", "bob", 1), submit(0, 1, "ann", "", 1), submit(2, 1, "ann", "bob", 1), {Op: 4, Number: 1, Name: "ann", Other: "bob"}}
	for _, r := range wrong {
		refused(t, "wrong", g, r, api.ErrGateCall)
	}
	goes(t, "a status", g, status(0, 1, "ann"), 1, ask(1, 0, 0, 7, 1, status(0, 1, "ann")))
	for id := uint64(2); id <= api.MaxCalls; id++ {
		goes(t, "one more", g, balance(0, "ann"), id, ask(1, 0, 0, 7, id, balance(0, "ann")))
	}
	refused(t, "a ninth", g, balance(0, "ann"), api.ErrGateBusy)
	for _, r := range wrong {
		refused(t, "a wrong ninth", g, r, api.ErrGateCall)
	}
}

// edge: a request, and whether it may be called, with two clients.
type edge struct {
	r   api.Request
	may bool
}

func edges() []edge {
	long, tooLong := strings.Repeat("é", 32), strings.Repeat("é", 32)+"x"
	return []edge{
		{api.Request{Op: api.CallNone, Number: 1, Name: "ann", Other: "bob"}, false},
		{api.Request{Op: -1, Number: 1, Name: "ann", Other: "bob"}, false},
		{api.Request{Op: 4, Number: 1, Name: "ann", Other: "bob"}, false},
		{api.Request{Op: math.MaxInt, Number: 1, Name: "ann", Other: "bob"}, false},
		{api.Request{Op: math.MinInt, Number: 1, Name: "ann", Other: "bob"}, false},
		{balance(-1, "ann"), false},
		{balance(0, "ann"), true},
		{balance(1, "ann"), true},
		{balance(2, "ann"), false},
		{balance(math.MaxInt, "ann"), false},
		{balance(math.MinInt, "ann"), false},
		{balance(0, ""), false},
		{balance(0, "a b"), false},
		{balance(0, "a\x00"), false},
		{balance(0, "\xff"), false},
		{balance(0, long), true},
		{balance(0, tooLong), false},
		{status(-1, 1, "ann"), false},
		{status(1, 1, "ann"), true},
		{status(2, 1, "ann"), false},
		{status(0, 0, "ann"), false},
		{status(0, api.MaxNumber, "ann"), true},
		{status(0, api.MaxNumber+1, "ann"), false},
		{status(0, math.MaxUint64, "ann"), false},
		{status(0, 1, ""), false},
		{status(0, 1, long), true},
		{status(0, 1, tooLong), false},
		{submit(-1, 1, "ann", "bob", 1), false},
		{submit(1, 1, "ann", "bob", 1), true},
		{submit(2, 1, "ann", "bob", 1), false},
		{submit(0, 0, "ann", "bob", 1), false},
		{submit(0, api.MaxNumber, "ann", "bob", 1), true},
		{submit(0, api.MaxNumber+1, "ann", "bob", 1), false},
		{submit(0, math.MaxUint64, "ann", "bob", 1), false},
		{submit(0, 1, "", "bob", 1), false},
		{submit(0, 1, "a/b", "bob", 1), false},
		{submit(0, 1, tooLong, "bob", 1), false},
		{submit(0, 1, "ann", "", 1), false},
		{submit(0, 1, "ann", "a/b", 1), false},
		{submit(0, 1, "ann", tooLong, 1), false},
		{submit(0, 1, long, long, 1), true},
		{submit(0, 1, "ann", "bob", 0), true},
		{submit(0, 1, "ann", "bob", api.MaxSupply), true},
		{submit(0, 1, "ann", "bob", api.MaxSupply+1), false},
		{submit(0, 1, "ann", "bob", math.MaxUint64), false},
		{submit(0, 1, "ann", "ANN", 1), true}, // to itself: the shard says so
	}
}

// P15.2: which requests may be called: each edge, the empty gate's answer and the full one's.
func TestEdges(t *testing.T) {
	full := open(t, three(), 1, 7)
	for range api.MaxCalls {
		full.Call(balance(0, "ann"))
	}
	for _, e := range edges() {
		g := open(t, three(), 1, 7)
		if e.may {
			goes(t, "good", g, e.r, 1, ask(1, 0, 0, 7, 1, e.r))
			refused(t, "good, and full", full, e.r, api.ErrGateBusy)
			continue
		}
		refused(t, "wrong", g, e.r, api.ErrGateCall)
		refused(t, "wrong, and full", full, e.r, api.ErrGateCall)
		same(t, "nothing is open", g.Tick())
		goes(t, "a wrong call takes no id", g, balance(0, "ann"), 1, ask(1, 0, 0, 7, 1, balance(0, "ann")))
	}
}

// P15.2: what is not sent is not looked at, and stands in no ask.
func TestNotLookedAt(t *testing.T) {
	for _, other := range []string{"", "a b", "\xff", strings.Repeat("x", 99), "bob"} {
		for _, n := range []uint64{0, 1, api.MaxNumber + 1, api.MaxSupply + 1, math.MaxUint64} {
			g := open(t, three(), 1, 7)
			goes(t, "a balance", g, api.Request{Op: api.CallBalance, Client: 1, Number: n, Name: "ann", Other: other, Amount: n}, 1, ask(1, 0, 0, 7, 1, balance(1, "ann")))
			goes(t, "a status", g, api.Request{Op: api.CallStatus, Client: 1, Number: 3, Name: "ann", Other: other, Amount: n}, 2, ask(1, 0, 0, 7, 2, status(1, 3, "ann")))
			same(t, "asked again", g.Tick(), ask(1, 2, 0, 7, 1, balance(1, "ann")), ask(1, 2, 0, 7, 2, status(1, 3, "ann")))
		}
	}
}

// P15.2: of how many clients there are hangs who may call.
func TestClients(t *testing.T) {
	c := three()
	for c.Clients = 1; c.Clients <= api.MaxClients; c.Clients++ {
		for client := -1; client <= api.MaxClients; client++ {
			g := open(t, c, 1, 7)
			if client < 0 || client >= c.Clients {
				refused(t, "no client", g, status(client, 1, "ann"), api.ErrGateCall)
			} else {
				goes(t, "a client", g, status(client, 1, "ann"), 1, ask(1, 0, 0, 7, 1, status(client, 1, "ann")))
			}
		}
	}
}

// P15.2: eight calls are open at most; an answer makes room, and its id does not come again.
func TestBusy(t *testing.T) {
	g := open(t, three(), 1, 7)
	for id := uint64(1); id <= api.MaxCalls; id++ {
		goes(t, "one more", g, balance(0, "ann"), id, ask(1, 0, 0, 7, id, balance(0, "ann")))
	}
	for n := range 20 {
		refused(t, "full", g, status(0, 1, "ann"), api.ErrGateBusy)
		hears(t, "an answer", g, answer(7, uint64(1+n)), api.Done{Node: 1, ID: uint64(1 + n)})
		id := uint64(api.MaxCalls + 1 + n)
		goes(t, "room again", g, status(0, 1, "ann"), id, ask(1, 0, 0, 7, id, status(0, 1, "ann")))
	}
	refused(t, "full", g, balance(0, "ann"), api.ErrGateBusy)
}

// P15.2: a call goes to the home of the account that it is about, never to that of the other one.
func TestHome(t *testing.T) {
	names := []string{"ann", "bob", "cyd", "É", "é", "x-1", "x-2", "x-3", "x-4", "x-5", "ANN"}
	met := map[int]bool{}
	for shards := 1; shards <= api.MaxShards; shards++ {
		c := api.Config{Nodes: 9, Shards: shards, Copies: 5, Clients: 1, Cap: 8}
		for i, name := range names {
			other := names[(i+1)%len(names)]
			shard := text.Home(name, shards)
			met[shard] = true
			l, _ := plane.Copies(shard, 9, 5)
			r := submit(0, 1, name, other, 2)
			g := open(t, c, 8, 3)
			goes(t, "a submit", g, r, 1, ask(8, l[0], shard, 3, 1, r))
			goes(t, "a balance", g, balance(0, name), 2, ask(8, l[0], shard, 3, 2, balance(0, name)))
			for _, to := range []int{l[1], l[2]} {
				same(t, "again", g.Tick(), ask(8, to, shard, 3, 1, r), ask(8, to, shard, 3, 2, balance(0, name)))
			}
		}
	}
	if len(met) < api.MaxShards-1 {
		t.Errorf("only the shards %v have been asked", met)
	}
}

// P15.3: of all kinds of messages an answer alone is heard.
func TestOnlyAnswers(t *testing.T) {
	g := open(t, three(), 1, 7)
	goes(t, "the call", g, balance(0, "ann"), 1, ask(1, 0, 0, 7, 1, balance(0, "ann")))
	for kind := -2; kind < 20; kind++ {
		if kind == api.MsgAnswer {
			continue
		}
		m := answer(7, 1)
		m.Kind = kind
		hears(t, "no answer", g, m)
	}
	for _, call := range []api.Call{{Life: 7}, {ID: 1}, {}, {Life: 1, ID: 7}, {Life: 8, ID: 1}, {Life: 7, ID: math.MaxUint64}, {Life: math.MaxUint64, ID: 1}} {
		hears(t, "another call's", g, answer(call.Life, call.ID))
	}
	hears(t, "the answer", g, answer(7, 1), api.Done{Node: 1, ID: 1})
}

// P15.3: the Done says what the answer says, whatever that is, and whoever has sent it, about whatever shard; nothing else of it.
func TestSaid(t *testing.T) {
	for _, said := range []api.Done{
		{}, {Amount: 9}, {State: api.StateSettled}, {Bad: api.BadFunds}, {Bad: api.BadOld, State: api.StateOld, Amount: math.MaxUint64}, {Bad: -1, State: -7, Amount: 1},
	} {
		for from := range 3 {
			g := open(t, three(), 2, 7)
			g.Call(balance(0, "ann"))
			m := api.Msg{
				Head:  api.Head{Kind: api.MsgAnswer, From: from, To: 1 - from, Shard: 5 * from},
				Epoch: 1, Tag: api.Tag{Epoch: 2, Seq: 3}, Round: 4, Span: 5, Seen: 6, Value: []byte("v"), Peer: 7,
				Number: 8, Name: "bob", Other: "cyd", Op: 9, Client: 10,
				Call: api.Call{Life: 7, ID: 1}, Bad: said.Bad, State: said.State, Amount: said.Amount,
			}
			want := said
			want.Node, want.ID = 2, 1
			hears(t, "an answer", g, m, want)
		}
	}
}

// P15.3, P15.4: an answered call is asked no more; the others go on, each with its own pace and turn, by their ids.
func TestOthersGoOn(t *testing.T) {
	g := open(t, three(), 1, 7)
	a := func(to int, id uint64) api.Msg { return ask(1, to, 0, 7, id, balance(0, "ann")) }
	goes(t, "1", g, balance(0, "ann"), 1, a(0, 1))
	same(t, "tick 1", g.Tick(), a(2, 1))
	goes(t, "2", g, balance(0, "ann"), 2, a(0, 2))
	same(t, "tick 2", g.Tick(), a(1, 1), a(2, 2))
	goes(t, "3", g, balance(0, "ann"), 3, a(0, 3))
	same(t, "tick 3", g.Tick(), a(1, 2), a(2, 3))
	hears(t, "2", g, answer(7, 2), api.Done{Node: 1, ID: 2})
	same(t, "tick 4", g.Tick(), a(0, 1), a(1, 3))
	goes(t, "4", g, balance(0, "ann"), 4, a(0, 4))
	same(t, "tick 5", g.Tick(), a(2, 4))
	hears(t, "1", g, answer(7, 1), api.Done{Node: 1, ID: 1})
	same(t, "tick 6", g.Tick(), a(0, 3), a(1, 4))
	if g.Open() != 2 {
		t.Errorf("%d calls are open", g.Open())
	}
}

// P15.4: the asks of a tick stand in the order of the ids, also with ids of two digits.
func TestByID(t *testing.T) {
	c := three()
	c.Cap = 1
	g := open(t, c, 1, 7)
	for id := uint64(1); id <= 200; id++ {
		// From a full gate two calls go, an old one and a young one.
		if g.Open() == api.MaxCalls {
			g.Hear(answer(7, id-api.MaxCalls))
			g.Hear(answer(7, id-3))
		}
		if got, _, e := g.Call(balance(0, "ann")); got != id || e != api.OK {
			t.Fatalf("call %d: %d, %d", id, got, e)
		}
		last, n := uint64(0), 0
		for _, m := range g.Tick() {
			if m.Call.ID <= last {
				t.Fatalf("%d behind %d", m.Call.ID, last)
			}
			last = m.Call.ID
			n++
		}
		if n != g.Open() {
			t.Fatalf("%d of %d calls have asked", n, g.Open())
		}
	}
}

// P15.4: Open changes nothing.
func TestOpen(t *testing.T) {
	g := open(t, three(), 1, 7)
	for n := range 5 {
		for range 3 {
			if g.Open() != n {
				t.Fatalf("%d calls are open, want %d", g.Open(), n)
			}
		}
		g.Call(balance(0, "ann"))
	}
	var all []api.Msg
	for id := uint64(1); id <= 5; id++ {
		all = append(all, ask(1, 2, 0, 7, id, balance(0, "ann")))
	}
	same(t, "tick", g.Tick(), all...)
}
