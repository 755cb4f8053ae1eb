package gate_test

import (
	"slices"
	"strconv"
	"strings"
	"testing"

	"tally/api"
	"tally/gate"
	"tally/plane"
	"tally/text"
)

// three: the examples' configuration: three nodes, one shard in three copies (0, 2, 1), cap 4, two clients.
func three() api.Config {
	return api.Config{Nodes: 3, Shards: 1, Copies: 3, Clients: 2, Queue: 4, Cap: 4, Patience: 64, Flight: 100}
}

func open(t *testing.T, c api.Config, node int, life uint64) *gate.Gate {
	t.Helper()
	g := gate.New(c, node, life)
	if g == nil {
		t.Fatalf("New(%+v, %d, %d): none", c, node, life)
	}
	return g
}

// copies: the copies of the shard of a name, as plane and text tell them.
func copies(t *testing.T, c api.Config, name string) []int {
	t.Helper()
	l, e := plane.Copies(text.Home(name, c.Shards), c.Nodes, c.Copies)
	if e != api.OK || len(l) != c.Copies {
		t.Fatalf("Copies(%q): %v, %d", name, l, e)
	}
	return l
}

func balance(client int, name string) api.Request {
	return api.Request{Op: api.CallBalance, Client: client, Name: name}
}

func status(client int, number uint64, name string) api.Request {
	return api.Request{Op: api.CallStatus, Client: client, Number: number, Name: name}
}

func submit(client int, number uint64, name, other string, amount uint64) api.Request {
	return api.Request{Op: api.CallSubmit, Client: client, Number: number, Name: name, Other: other, Amount: amount}
}

// ask: what a call of these fields asks; the request must have no others.
func ask(node, to, shard int, life, id uint64, r api.Request) api.Msg {
	return api.Msg{
		Head: api.Head{Kind: api.MsgAsk, From: node, To: to, Shard: shard},
		Call: api.Call{Life: life, ID: id},
		Op:   r.Op, Client: r.Client, Number: r.Number, Name: r.Name, Other: r.Other, Amount: r.Amount,
	}
}

func answer(life, id uint64) api.Msg {
	return api.Msg{Head: api.Head{Kind: api.MsgAnswer, From: 2, To: 1}, Call: api.Call{Life: life, ID: id}}
}

// spell: a message with all of its fields; those that are zero are left out.
func spell(m api.Msg) string {
	var out []string
	put := func(name string, n uint64) {
		if n != 0 {
			out = append(out, name+strconv.FormatUint(n, 10))
		}
	}
	for i, n := range []int{m.Kind, m.Shard, m.Peer, m.Span, m.Op, m.Client, m.State, int(m.Bad)} {
		put([]string{"kind", "shard", "peer", "span", "op", "client", "state", "bad"}[i], uint64(n))
	}
	for i, n := range []uint64{m.Epoch, m.Tag.Epoch, m.Tag.Seq, m.Round, m.Seen, m.Number, m.Amount, m.Call.Life, m.Call.ID} {
		put([]string{"epoch", "tag", "seq", "round", "seen", "number", "amount", "life", "id"}[i], n)
	}
	out = append(out, "value"+string(m.Value), "name"+m.Name, "other"+m.Other, strconv.Itoa(m.From)+">"+strconv.Itoa(m.To))
	return strings.Join(out, " ")
}

func spellAll(l []api.Msg) string {
	var out []string
	for _, m := range l {
		out = append(out, spell(m))
	}
	return strings.Join(out, "; ")
}

func same(t *testing.T, what string, got []api.Msg, want ...api.Msg) {
	t.Helper()
	if spellAll(got) != spellAll(want) || len(got) != len(want) {
		t.Fatalf("%s: %q, want %q", what, spellAll(got), spellAll(want))
	}
}

// goes makes a call that opens, with this id and this ask.
func goes(t *testing.T, what string, g *gate.Gate, r api.Request, id uint64, want api.Msg) {
	t.Helper()
	before := g.Open()
	got, l, e := g.Call(r)
	if got != id || e != api.OK || g.Open() != before+1 {
		t.Fatalf("%s: Call(%+v): %d, %d, %d open; want %d, OK, %d open", what, r, got, e, g.Open(), id, before+1)
	}
	same(t, what, l, want)
}

// refused makes a call that does not open.
func refused(t *testing.T, what string, g *gate.Gate, r api.Request, want api.Errno) {
	t.Helper()
	before := g.Open()
	id, l, e := g.Call(r)
	if e != want || id != 0 || len(l) != 0 || g.Open() != before {
		t.Fatalf("%s: Call(%+v): %d, %v, %d, %d open; want %d, %d open", what, r, id, l, e, g.Open(), want, before)
	}
}

func hears(t *testing.T, what string, g *gate.Gate, m api.Msg, want ...api.Done) {
	t.Helper()
	before := g.Open()
	if got := g.Hear(m); !slices.Equal(got, want) || g.Open() != before-len(want) {
		t.Fatalf("%s: Hear(%s): %v, %d open; want %v, %d open", what, spell(m), got, g.Open(), want, before-len(want))
	}
}

// model: a second, plain telling of the chapter.
type model struct {
	c    api.Config
	node int
	life uint64
	used uint64
	open []plain
}

type plain struct {
	id              uint64
	r               api.Request
	shard           int
	copies          []int
	left, gap, turn int
}

func (p *plain) ask(m *model) api.Msg {
	out := ask(m.node, p.copies[p.turn], p.shard, m.life, p.id, p.r)
	p.turn++
	if p.turn == len(p.copies) {
		p.turn = 0
	}
	return out
}

func (m *model) wrong(r api.Request) bool {
	switch {
	case r.Op != api.CallSubmit && r.Op != api.CallBalance && r.Op != api.CallStatus:
	case r.Client < 0 || r.Client > m.c.Clients-1:
	case r.Op != api.CallBalance && (r.Number < 1 || r.Number > api.MaxNumber):
	case text.Check(r.Name) != api.OK:
	case r.Op == api.CallSubmit && text.Check(r.Other) != api.OK:
	case r.Op == api.CallSubmit && r.Amount > api.MaxSupply:
	default:
		return false
	}
	return true
}

func (m *model) call(t *testing.T, r api.Request) (uint64, []api.Msg, api.Errno) {
	t.Helper()
	if m.wrong(r) {
		return 0, nil, api.ErrGateCall
	}
	if len(m.open) == api.MaxCalls {
		return 0, nil, api.ErrGateBusy
	}
	if r.Op == api.CallBalance {
		r.Number = 0
	}
	if r.Op != api.CallSubmit {
		r.Other, r.Amount = "", 0
	}
	m.used++
	p := plain{id: m.used, r: r, shard: text.Home(r.Name, m.c.Shards), copies: copies(t, m.c, r.Name), gap: 1}
	first := p.ask(m)
	m.open = append(m.open, p)
	return p.id, []api.Msg{first}, api.OK
}

func (m *model) hear(msg api.Msg) []api.Done {
	if msg.Kind != api.MsgAnswer || msg.Call.Life != m.life {
		return nil
	}
	for i, p := range m.open {
		if p.id == msg.Call.ID {
			m.open = slices.Delete(m.open, i, i+1)
			return []api.Done{{Node: m.node, ID: p.id, Bad: msg.Bad, State: msg.State, Amount: msg.Amount}}
		}
	}
	return nil
}

func (m *model) tick() []api.Msg {
	var out []api.Msg
	for i := range m.open {
		p := &m.open[i]
		if p.left > 1 {
			p.left--
			continue
		}
		p.left = p.gap
		p.gap = min(2*p.gap, m.c.Cap)
		out = append(out, p.ask(m))
	}
	return out
}
