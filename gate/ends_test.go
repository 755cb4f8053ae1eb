package gate

import (
	"testing"

	"tally/api"
)

// P15.2, R5: the last id is MaxNumber; behind it no call opens, though none is open. (Nobody can make so many calls: the number is laid down.)
func TestLastID(t *testing.T) {
	c := api.Config{Nodes: 3, Shards: 1, Copies: 3, Clients: 2, Cap: 4}
	g := New(c, 1, 7)
	g.next = api.MaxNumber - 1
	r := api.Request{Op: api.CallBalance, Name: "ann"}
	for _, want := range []uint64{api.MaxNumber - 1, api.MaxNumber} {
		id, l, e := g.Call(r)
		if id != want || e != api.OK || len(l) != 1 || l[0].Call != (api.Call{Life: 7, ID: want}) {
			t.Fatalf("Call: %d, %v, %d, want %d", id, l, e, want)
		}
	}
	if l := g.Tick(); len(l) != 2 || l[0].Call.ID != api.MaxNumber-1 || l[1].Call.ID != api.MaxNumber {
		t.Fatalf("Tick: %v", l)
	}
	for _, id := range []uint64{api.MaxNumber, api.MaxNumber - 1} {
		if id, l, e := g.Call(r); id != 0 || len(l) != 0 || e != api.ErrGateBusy {
			t.Fatalf("Call behind the last id: %d, %v, %d", id, l, e)
		}
		m := api.Msg{Head: api.Head{Kind: api.MsgAnswer}, Call: api.Call{Life: 7, ID: id}}
		if d := g.Hear(m); len(d) != 1 || d[0] != (api.Done{Node: 1, ID: id}) {
			t.Fatalf("Hear: %v", d)
		}
	}
	if id, l, e := g.Call(r); id != 0 || len(l) != 0 || e != api.ErrGateBusy || g.Open() != 0 {
		t.Fatalf("Call behind the last id: %d, %v, %d", id, l, e)
	}
	r.Client = 2
	if _, _, e := g.Call(r); e != api.ErrGateCall {
		t.Fatalf("a wrong call behind the last id: %d", e)
	}
}
