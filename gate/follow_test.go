package gate_test

import (
	"math/rand"
	"testing"

	"tally/api"
)

// P15.6: as long as a call is open it asks at the next Tick and again at least each Cap Ticks; within Copies times Cap Ticks each copy of its shard has been asked, whatever the other calls do.
func TestEachCopy(t *testing.T) {
	r := rand.New(rand.NewSource(156))
	for range 2000 {
		c := drawConfig(r)
		g := open(t, c, r.Intn(c.Nodes), 7)
		for range r.Intn(2 * c.Cap) {
			if g.Open() < api.MaxCalls-1 {
				g.Call(balance(0, "bob"))
			}
			g.Tick()
		}
		id, l, e := g.Call(balance(0, "ann"))
		if e != api.OK || len(l) != 1 {
			t.Fatalf("Call: %v, %d", l, e)
		}
		last, reached := 0, map[int]bool{}
		for tick := 1; tick <= c.Copies*c.Cap; tick++ {
			met := 0
			for _, m := range g.Tick() {
				if m.Call.ID == id {
					met++
					reached[m.To] = true
				}
			}
			if met > 1 || tick == 1 && met == 0 || met == 0 && tick-last >= c.Cap {
				t.Fatalf("cap %d: %d asks at tick %d, the last one was at %d", c.Cap, met, tick, last)
			}
			if met == 1 {
				last = tick
			}
			if r.Intn(4) == 0 {
				g.Hear(answer(7, r.Uint64()%id))
				g.Hear(answer(8, id))
				g.Call(balance(0, "cyd"))
			}
		}
		checkReached(t, c, reached)
	}
}

func checkReached(t *testing.T, c api.Config, reached map[int]bool) {
	t.Helper()
	for _, to := range copies(t, c, "ann") {
		if !reached[to] {
			t.Fatalf("cap %d: of the copies %v node %d has not been asked", c.Cap, copies(t, c, "ann"), to)
		}
	}
	if len(reached) != c.Copies {
		t.Fatalf("%d nodes have been asked", len(reached))
	}
}

// P15.6: ids rise by one, refused calls between; of each id there is one Done at most, and only for an answer that names it and this life.
func TestOnce(t *testing.T) {
	r := rand.New(rand.NewSource(1561))
	for range 300 {
		g := open(t, drawConfig(r), 0, 7)
		used, done := uint64(0), map[uint64]bool{}
		for range 400 {
			switch r.Intn(4) {
			case 0:
				if id, _, e := g.Call(balance(0, "ann")); e == api.OK {
					used++
					if id != used {
						t.Fatalf("id %d, want %d", id, used)
					}
				} else if e != api.ErrGateBusy || g.Open() != api.MaxCalls {
					t.Fatalf("Call: %d, with %d open", e, g.Open())
				}
			case 1:
				refused(t, "wrong", g, balance(-1, "ann"), api.ErrGateCall)
			case 2:
				g.Tick()
			default:
				m := answer(6+uint64(r.Intn(3)), r.Uint64()%(used+3))
				got := g.Hear(m)
				fits := m.Call.Life == 7 && m.Call.ID >= 1 && m.Call.ID <= used && !done[m.Call.ID]
				if fits != (len(got) == 1) || len(got) > 1 || len(got) == 1 && got[0].ID != m.Call.ID {
					t.Fatalf("Hear(%v): %v", m.Call, got)
				}
				if fits {
					done[m.Call.ID] = true
				}
			}
			if g.Open() != int(used)-len(done) {
				t.Fatalf("%d open, %d made, %d done", g.Open(), used, len(done))
			}
		}
	}
}
