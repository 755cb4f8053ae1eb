package gate

import (
	"tally/api"
	"tally/pace"
	"tally/plane"
	"tally/text"
)

// call is an open one.
type call struct {
	ask    api.Msg // but for the copy that it goes to
	pace   *pace.Pace
	copies []int
	turn   int // the place among the copies of the one that is asked next
}

// newCall makes one that asks so. Only a configuration that node.Start does not take has no copies or no pace for it.
func newCall(c api.Config, ask api.Msg) (*call, api.Errno) {
	copies, e := plane.Copies(ask.Shard, c.Nodes, c.Copies)
	if e != api.OK {
		return nil, e
	}
	p, e := pace.New(c.Cap)
	if e != api.OK {
		return nil, e
	}
	return &call{ask: ask, pace: p, copies: copies}, api.OK
}

// next is the ask to the copy whose turn it is; then it is the next one's.
func (o *call) next() api.Msg {
	m := o.ask
	m.To = o.copies[o.turn]
	o.turn = (o.turn + 1) % len(o.copies)
	return m
}

// ask makes what the next call asks, but for the copy that it goes to. What its Op does not use stays out: nobody has looked at it, so it may be what no message can say.
func (g *Gate) ask(r api.Request) api.Msg {
	m := api.Msg{
		Head:   api.Head{Kind: api.MsgAsk, From: g.node, Shard: text.Home(r.Name, g.c.Shards)},
		Call:   api.Call{Life: g.life, ID: g.next},
		Op:     r.Op,
		Client: r.Client,
		Name:   r.Name,
	}
	if r.Op != api.CallBalance {
		m.Number = r.Number
	}
	if r.Op == api.CallSubmit {
		m.Other, m.Amount = r.Other, r.Amount
	}
	return m
}
