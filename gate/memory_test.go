package gate_test

import (
	"slices"
	"testing"

	"tally/api"
)

// P15.5, R2: what is handed in is neither changed nor kept.
func TestHandedIn(t *testing.T) {
	accounts := []api.Account{{Name: "b", Balance: 1}, {Name: "a", Balance: 2}, {Name: "c"}}
	was := slices.Clone(accounts)
	c := three()
	c.Accounts = accounts[:2]
	g := open(t, c, 1, 7)
	goes(t, "the call", g, balance(0, "ann"), 1, ask(1, 0, 0, 7, 1, balance(0, "ann")))
	value := []byte("value")
	m := answer(7, 1)
	m.Value = value[:3]
	g.Tick()
	hears(t, "the answer", g, m, api.Done{Node: 1, ID: 1})
	if !slices.Equal(accounts, was) || string(value) != "value" {
		t.Errorf("%v, %q", accounts, value)
	}
	c.Accounts[0], c.Clients, c.Cap, c.Nodes = api.Account{}, 1, 1, 1
	goes(t, "as it was handed in", g, balance(1, "ann"), 2, ask(1, 0, 0, 7, 2, balance(1, "ann")))
	same(t, "as it was handed in", g.Tick(), ask(1, 2, 0, 7, 2, balance(1, "ann")))
}

// P15.5, R2: what is answered is new memory, the room behind its end too.
func TestToldIsNew(t *testing.T) {
	c := three()
	c.Cap = 1
	g := open(t, c, 1, 7)
	a := func(to int, id uint64) api.Msg { return ask(1, to, 0, 7, id, balance(0, "ann")) }
	_, one, _ := g.Call(balance(0, "ann"))
	_, two, _ := g.Call(balance(0, "ann"))
	clear(one[:cap(one)])
	same(t, "the second ask", two, a(0, 2))
	first := g.Tick()
	second := g.Tick()
	clear(two[:cap(two)])
	clear(first[:cap(first)])
	same(t, "told ahead", second, a(1, 1), a(1, 2))
	second[0].Call, second[1].Name, second[0].To = api.Call{}, "bob", 9
	l := append(second[:1], api.Msg{})
	clear(l[:cap(l)])
	same(t, "told anew", g.Tick(), a(0, 1), a(0, 2))
	d := g.Hear(answer(7, 1))
	e := g.Hear(answer(7, 2))
	clear(d[:cap(d)])
	if !slices.Equal(e, []api.Done{{Node: 1, ID: 2}}) {
		t.Errorf("Hear: %v", e)
	}
}

// P15.5: two gates have nothing in common, of one configuration, node and life.
func TestTwo(t *testing.T) {
	one, other := open(t, three(), 1, 7), open(t, three(), 1, 7)
	a := func(to int, id uint64) api.Msg { return ask(1, to, 0, 7, id, balance(0, "ann")) }
	goes(t, "one", one, balance(0, "ann"), 1, a(0, 1))
	goes(t, "one", one, balance(0, "ann"), 2, a(0, 2))
	same(t, "the other has none", other.Tick())
	hears(t, "the other has none", other, answer(7, 1))
	goes(t, "the other", other, balance(0, "ann"), 1, a(0, 1))
	same(t, "one", one.Tick(), a(2, 1), a(2, 2))
	hears(t, "one", one, answer(7, 1), api.Done{Node: 1, ID: 1})
	same(t, "the other", other.Tick(), a(2, 1))
	hears(t, "the other", other, answer(7, 1), api.Done{Node: 1, ID: 1})
	same(t, "one", one.Tick(), a(1, 2))
	if one.Open() != 1 || other.Open() != 0 {
		t.Errorf("%d and %d calls are open", one.Open(), other.Open())
	}
}
