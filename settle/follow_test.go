package settle_test

import (
	"math/rand"
	"slices"
	"testing"

	"tally/api"
	"tally/settle"
)

// P13.7: of each peer at most one settle a tick, always its first entry's; while that stays, one at the first tick, never more than Cap ticks between two, and within Copies times Cap ticks each copy has been sent it: wherever turn and pace stood, and whatever the other peers have.
func TestEachCopy(t *testing.T) {
	r := rand.New(rand.NewSource(137))
	for range 3000 {
		c := drawConfig(r)
		c.Shards = 2 + r.Intn(api.MaxShards-1)
		shard := r.Intn(c.Shards)
		peer := (shard + 1 + r.Intn(c.Shards-1)) % c.Shards
		s := open(t, c, r.Intn(c.Nodes), shard)
		s.Look(book(entry(peer, 1)))
		for range r.Intn(3 * c.Cap) {
			s.Tick()
		}
		watch(t, r, s, c, shard, peer)
	}
}

// watch shows a new first entry of a peer, which then stays.
func watch(t *testing.T, r *rand.Rand, s *settle.Settle, c api.Config, shard, peer int) {
	t.Helper()
	first := entry(peer, 2)
	s.Look(book(first))
	last, reached := 0, map[int]bool{}
	for tick := 1; tick <= c.Copies*c.Cap; tick++ {
		met := 0
		for _, m := range s.Tick() {
			if m.Peer != peer {
				continue
			}
			met++
			reached[m.To] = true
			if m.Number != first.Number || m.Name != first.Name || m.Amount != first.Amount || m.Shard != shard {
				t.Fatalf("%+v, the first entry is %+v", m, first)
			}
		}
		if met > 1 || tick == 1 && met == 0 || met == 0 && tick-last >= c.Cap {
			t.Fatalf("cap %d: %d settles at tick %d, the last one was at %d", c.Cap, met, tick, last)
		}
		if met == 1 {
			last = tick
		}
		if r.Intn(3) == 0 {
			s.Look(book(entry((peer+1)%c.Shards, uint64(tick)), first, entry(peer, 3)))
		}
	}
	for _, to := range copies(t, c, peer) {
		if !reached[to] {
			t.Fatalf("cap %d: of the copies %v node %d has not been sent it", c.Cap, copies(t, c, peer), to)
		}
	}
	if len(reached) != c.Copies {
		t.Fatalf("it went to %d nodes", len(reached))
	}
}

// P13.4, P13.5, P13.7: a queue runs dry though of each peer one copy alone holds: it says what it has, and the entries that are wanted leave.
func TestRunsDry(t *testing.T) {
	for n := 1; n <= api.MaxCopies; n += 2 {
		for _, most := range []int{1, 2, 5, 16} {
			c := api.Config{Nodes: 9, Shards: 4, Copies: n, Clients: 1, Queue: 16, Cap: most, Patience: 64, Flight: 100}
			for place := range n {
				dries(t, c, place)
			}
		}
	}
}

func dries(t *testing.T, c api.Config, place int) {
	t.Helper()
	var q []api.Entry
	for i := range 16 {
		q = append(q, entry([]int{0, 2, 3}[i%3], uint64(1+i/3)))
	}
	s := open(t, c, 5, 1)
	s.Look(api.Book{Queue: q})
	for tick := 0; len(q) > 0; tick++ {
		if tick > 6*c.Copies*c.Cap {
			t.Fatalf("copies %d, cap %d: %d entries are left", c.Copies, c.Cap, len(q))
		}
		for _, m := range s.Tick() {
			if m.To != copies(t, c, m.Peer)[place] {
				continue
			}
			if !s.Wants(m.Peer, m.Number) || s.Wants(m.Peer, m.Number-1) {
				t.Fatalf("entry %d of peer %d is not the first that is wanted", m.Number, m.Peer)
			}
			q = slices.DeleteFunc(slices.Clone(q), func(e api.Entry) bool { return e.Peer == m.Peer && e.Number <= m.Number })
			s.Look(api.Book{Queue: q})
			if s.Wants(m.Peer, m.Number) {
				t.Fatalf("entry %d of peer %d is wanted still", m.Number, m.Peer)
			}
		}
	}
	sends(t, "dry", s)
}
