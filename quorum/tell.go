package quorum

import "tally/api"

// A crowd is the copies that have been counted.
type crowd map[int]struct{}

// add counts a copy, and tells whether it had not been counted yet.
func (c crowd) add(node int) bool {
	_, was := c[node]
	c[node] = struct{}{}
	return !was
}

// prepares go to all other copies, whether or not they have promised.
func (q *Quorum) prepares() []api.Msg {
	m := q.about(api.MsgPrepare)
	m.Epoch = q.epoch
	return q.toAllBut(crowd{q.node: {}}, m)
}

func (q *Quorum) writes(span int) []api.Msg {
	m := q.about(api.MsgWrite)
	m.Tag, m.Span = q.next.tag, span
	out := q.toAllBut(q.counted, m)
	for i := range out {
		out[i].Value = []byte(q.next.value) // bytes of its own for each
	}
	return out
}

func (q *Quorum) beats(span int) []api.Msg {
	m := q.about(api.MsgBeat)
	m.Epoch, m.Round, m.Span = q.epoch, q.begun, span
	return q.toAllBut(q.answered, m)
}

// about makes a message of a kind that comes from the node, about the shard.
func (q *Quorum) about(kind int) api.Msg {
	return api.Msg{Head: api.Head{Kind: kind, From: q.node, Shard: q.shard}}
}

// toAllBut addresses a message to each copy that is not in the crowd, in their order.
func (q *Quorum) toAllBut(not crowd, m api.Msg) []api.Msg {
	var out []api.Msg
	for _, node := range q.copies {
		if _, in := not[node]; in {
			continue
		}
		m.To = node
		out = append(out, m)
	}
	return out
}
