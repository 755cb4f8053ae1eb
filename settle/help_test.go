package settle_test

import (
	"slices"
	"strconv"
	"strings"
	"testing"

	"tally/api"
	"tally/plane"
	"tally/settle"
)

// three: the examples' configuration: three shards, each in three copies, cap 4.
func three() api.Config {
	return api.Config{Nodes: 7, Shards: 3, Copies: 3, Clients: 1, Queue: 16, Cap: 4, Patience: 64, Flight: 100}
}

// copies: the copies of a shard as the plane tells them.
func copies(t *testing.T, c api.Config, shard int) []int {
	t.Helper()
	l, e := plane.Copies(shard, c.Nodes, c.Copies)
	if e != api.OK || len(l) != c.Copies {
		t.Fatalf("Copies(%d, %d, %d): %v, %d", shard, c.Nodes, c.Copies, l, e)
	}
	return l
}

func open(t *testing.T, c api.Config, node, shard int) *settle.Settle {
	t.Helper()
	s := settle.New(c, node, shard)
	if s == nil {
		t.Fatalf("New(%+v, %d, %d): none", c, node, shard)
	}
	return s
}

// entry: one whose name and amount hang on its peer and number.
func entry(peer int, number uint64) api.Entry {
	return api.Entry{Peer: peer, Number: number, Name: "a" + strconv.Itoa(peer) + "." + strconv.FormatUint(number, 10), Amount: 100*number + uint64(peer)}
}

func book(queue ...api.Entry) api.Book { return api.Book{Queue: queue} }

// toll: the settle of an entry.
func toll(node, to, shard int, e api.Entry) api.Msg {
	return api.Msg{Head: api.Head{Kind: api.MsgSettle, From: node, To: to, Shard: shard}, Peer: e.Peer, Number: e.Number, Name: e.Name, Amount: e.Amount}
}

// spell: a message with all of its fields; those that are zero are left out.
func spell(m api.Msg) string {
	var out []string
	put := func(name string, n uint64) {
		if n != 0 {
			out = append(out, name+strconv.FormatUint(n, 10))
		}
	}
	for i, n := range []int{m.Kind, m.Shard, m.Peer, m.Span, m.Op, m.Client, m.State, int(m.Bad)} {
		put([]string{"kind", "shard", "peer", "span", "op", "client", "state", "bad"}[i], uint64(n))
	}
	for i, n := range []uint64{m.Epoch, m.Tag.Epoch, m.Tag.Seq, m.Round, m.Seen, m.Number, m.Amount, m.Call.Life, m.Call.ID} {
		put([]string{"epoch", "tag", "seq", "round", "seen", "number", "amount", "life", "id"}[i], n)
	}
	out = append(out, "value"+string(m.Value), "name"+m.Name, "other"+m.Other, strconv.Itoa(m.From)+">"+strconv.Itoa(m.To))
	return strings.Join(out, " ")
}

func spellAll(l []api.Msg) string {
	var out []string
	for _, m := range l {
		out = append(out, spell(m))
	}
	return strings.Join(out, "; ")
}

// sends ticks once, and holds what is told against what is wanted.
func sends(t *testing.T, what string, s *settle.Settle, want ...api.Msg) {
	t.Helper()
	if got := s.Tick(); spellAll(got) != spellAll(want) || len(got) != len(want) {
		t.Fatalf("%s: %q, want %q", what, spellAll(got), spellAll(want))
	}
}

// times: at which of so many Ticks something is sent to a peer: T for a tick with a settle, f for one without.
func times(s *settle.Settle, peer, ticks int) string {
	var out []byte
	for range ticks {
		if slices.ContainsFunc(s.Tick(), func(m api.Msg) bool { return m.Peer == peer }) {
			out = append(out, 'T')
		} else {
			out = append(out, 'f')
		}
	}
	return string(out)
}

func goes(t *testing.T, what string, s *settle.Settle, peer int, want string) {
	t.Helper()
	if got := times(s, peer, len(want)); got != want {
		t.Fatalf("%s: Ticks %s, want %s", what, got, want)
	}
}

func wants(t *testing.T, s *settle.Settle, peer int, number uint64, want bool) {
	t.Helper()
	if got := s.Wants(peer, number); got != want {
		t.Fatalf("Wants(%d, %d): %v, want %v", peer, number, got, want)
	}
}

// model: a second, plain telling of the chapter.
type model struct {
	c           api.Config
	node, shard int
	queue       []api.Entry
	lanes       [api.MaxShards]lane
}

type lane struct {
	copies          []int
	left, gap, turn int
	had             bool
	number          uint64
}

func newModel(t *testing.T, c api.Config, node, shard int) *model {
	t.Helper()
	m := &model{c: c, node: node, shard: shard}
	for peer := range c.Shards {
		m.lanes[peer] = lane{copies: copies(t, c, peer), gap: 1}
	}
	return m
}

func (m *model) first(peer int) (api.Entry, bool) {
	for _, e := range m.queue {
		if e.Peer == peer && peer != m.shard {
			return e, true
		}
	}
	return api.Entry{}, false
}

func (m *model) look(queue []api.Entry) {
	m.queue = slices.Clone(queue)
	for peer := range m.c.Shards {
		l := &m.lanes[peer]
		e, there := m.first(peer)
		if there && !(l.had && l.number == e.Number) {
			l.left, l.gap = 0, 1
		}
		l.had, l.number = there, e.Number
	}
}

func (m *model) stop() {
	m.queue = nil
	for peer := range m.lanes {
		m.lanes[peer].had = false
	}
}

func (m *model) tick() []api.Msg {
	var out []api.Msg
	for peer := range m.c.Shards {
		l := &m.lanes[peer]
		e, there := m.first(peer)
		switch {
		case !there:
		case l.left > 1:
			l.left--
		default:
			l.left = l.gap
			l.gap = min(2*l.gap, m.c.Cap)
			out = append(out, toll(m.node, l.copies[l.turn], m.shard, e))
			l.turn++
			if l.turn == len(l.copies) {
				l.turn = 0
			}
		}
	}
	return out
}

func (m *model) wants(peer int, number uint64) bool {
	if peer < 0 || peer >= m.c.Shards || peer == m.shard {
		return false
	}
	for _, e := range m.queue {
		if e.Peer == peer && e.Number <= number {
			return true
		}
	}
	return false
}
