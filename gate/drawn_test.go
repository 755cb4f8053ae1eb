package gate_test

import (
	"math"
	"math/rand"
	"slices"
	"strings"
	"testing"

	"tally/api"
	"tally/gate"
)

func drawConfig(r *rand.Rand) api.Config {
	nodes := 1 + r.Intn(api.MaxNodes)
	n := 1 + 2*r.Intn((min(nodes, api.MaxCopies)+1)/2)
	most := 1 + r.Intn(8)
	if r.Intn(6) == 0 {
		most = 1 + r.Intn(api.MaxCap)
	}
	return api.Config{Nodes: nodes, Shards: 1 + r.Intn(api.MaxShards), Copies: n, Clients: 1 + r.Intn(api.MaxClients), Queue: 4, Cap: most, Patience: 64, Flight: 9}
}

// pair: a gate and a plain one beside it.
type pair struct {
	*testing.T
	*rand.Rand
	g *gate.Gate
	m *model
}

func (p *pair) name() string {
	names := []string{"ann", "Ann", "bob", "É", "x-1", "x-2", "x-3", "x.4", strings.Repeat("y", 64)}
	if p.Intn(12) == 0 {
		names = []string{"", "a b", "\xff", strings.Repeat("y", 65)}
	}
	return names[p.Intn(len(names))]
}

func (p *pair) number(most uint64) uint64 {
	l := []uint64{1, 2, 3, most - 1, most}
	if p.Intn(8) == 0 {
		l = []uint64{0, most + 1, math.MaxUint64}
	}
	return l[p.Intn(len(l))]
}

func (p *pair) request() api.Request {
	r := api.Request{Op: 1 + p.Intn(3), Client: p.Intn(p.m.c.Clients), Number: p.number(api.MaxNumber), Name: p.name(), Other: p.name(), Amount: p.number(api.MaxSupply)}
	switch p.Intn(20) {
	case 0:
		r.Op = []int{-1, 0, 4, 99}[p.Intn(4)]
	case 1:
		r.Client = []int{-1, p.m.c.Clients, math.MaxInt}[p.Intn(3)]
	}
	return r
}

func (p *pair) answer() api.Msg {
	id := p.Uint64() % (p.m.used + 2)
	if n := len(p.m.open); n > 0 && p.Intn(2) == 0 {
		id = p.m.open[p.Intn(n)].id
	}
	m := answer(p.m.life, id)
	m.Amount, m.State, m.Bad = p.Uint64()%3, p.Intn(5), api.Errno(p.Intn(2))*api.BadFunds
	switch p.Intn(12) {
	case 0:
		m.Call.Life += uint64(p.Intn(3)) - 1
	case 1:
		m.Kind = p.Intn(14)
	}
	return m
}

// step makes one call, and tells how many asks there were.
func (p *pair) step() int {
	p.Helper()
	switch n := p.Intn(10); {
	case n < 2:
		r := p.request()
		id, l, e := p.g.Call(r)
		wantID, want, wantErr := p.m.call(p.T, r)
		if id != wantID || e != wantErr {
			p.Fatalf("Call(%+v): %d, %d, want %d, %d", r, id, e, wantID, wantErr)
		}
		same(p.T, "Call", l, want...)
		return len(l)
	case n < 4:
		m := p.answer()
		if got, want := p.g.Hear(m), p.m.hear(m); !slices.Equal(got, want) {
			p.Fatalf("Hear(%s): %v, want %v", spell(m), got, want)
		}
		return 0
	default:
		l := p.g.Tick()
		same(p.T, "Tick", l, p.m.tick()...)
		return len(l)
	}
}

// P15.1 to P15.4: drawn calls, each answer held against the chapter's plain telling.
func TestDrawn(t *testing.T) {
	r := rand.New(rand.NewSource(15))
	asked := 0
	for range 1000 {
		c, life := drawConfig(r), []uint64{0, 1, 7, api.MaxNumber, math.MaxUint64}[r.Intn(5)]
		node := r.Intn(c.Nodes)
		p := &pair{t, r, open(t, c, node, life), &model{c: c, node: node, life: life}}
		for range 200 {
			asked += p.step()
			if p.g.Open() != len(p.m.open) {
				t.Fatalf("%d calls are open, want %d", p.g.Open(), len(p.m.open))
			}
		}
	}
	if asked < 100000 {
		t.Errorf("only %d asks", asked)
	}
}

// R1: of configurations and nodes that may not be nothing is said but that every call ends.
func TestOdd(t *testing.T) {
	odd := []int{math.MinInt, -1, 0, 1, 2, 3, 8, 9, 10, 64, 65, 1 << 40, math.MaxInt}
	r := rand.New(rand.NewSource(1515))
	any := func() int { return odd[r.Intn(len(odd))] }
	for i := range 20000 {
		c, node := three(), 1
		for _, n := range []*int{&c.Nodes, &c.Shards, &c.Copies, &c.Cap, &c.Queue, &c.Clients, &c.Patience, &c.Flight, &node} {
			if r.Intn(1+i%4) == 0 {
				*n = any()
			}
		}
		g := open(t, c, node, r.Uint64())
		for range 3 {
			g.Call(api.Request{Op: any(), Client: any(), Number: uint64(any()), Name: "x", Other: "y", Amount: uint64(any())})
			g.Call(balance(max(0, any()), []string{"ann", "bob", "", "\xff"}[r.Intn(4)]))
			g.Tick()
			g.Hear(api.Msg{Head: api.Head{Kind: any(), From: any(), To: any(), Shard: any()}, Call: api.Call{Life: uint64(any()), ID: uint64(any())}})
		}
		g.Open()
	}
}

// P15.2: what is not looked at of a configuration changes nothing.
func TestNotLookedAtOfAConfiguration(t *testing.T) {
	for _, odd := range []int{math.MinInt, -1, 0, math.MaxInt} {
		c := three()
		c.Queue, c.Patience, c.Flight = odd, odd, odd
		c.Accounts = []api.Account{{Name: "\xff"}, {Name: "\xff", Balance: math.MaxUint64}}
		g := open(t, c, 1, 7)
		goes(t, "an account that it has not", g, balance(0, "ann"), 1, ask(1, 0, 0, 7, 1, balance(0, "ann")))
		same(t, "tick", g.Tick(), ask(1, 2, 0, 7, 1, balance(0, "ann")))
	}
}
