package node_test

import (
	"slices"
	"testing"

	"tally/api"
	"tally/disk"
	"tally/gate"
	"tally/journal"
	"tally/message"
	"tally/replica"
	"tally/writer"
)

// plain: a second telling of the chapter, step by step.
type plain struct {
	c      api.Config
	me     int
	life   uint64
	down   bool
	shards []int
	has    map[int]*replica.Replica
	does   map[int]*writer.Writer
	gate   *gate.Gate
	j      *journal.Journal
}

func startPlain(t *testing.T, c api.Config, me int, d *disk.Disk) (*plain, api.Errno) {
	t.Helper()
	j, e := journal.Open(d, "node")
	if e != api.OK {
		return nil, e
	}
	life, has, ok := plainTale(t, c, me, j.All())
	if !ok {
		return nil, api.ErrNodeDisk
	}
	p := &plain{c: c, me: me, life: life + 1, j: j, has: map[int]*replica.Replica{}, does: map[int]*writer.Writer{}}
	for s := range c.Shards {
		if x, its := has[s]; its {
			p.shards = append(p.shards, s)
			p.has[s] = replica.Load(x, api.FirstPatience)
			p.does[s] = writer.New(c, me, s, x.Promised)
		}
	}
	if e := p.lay(lifePart(p.life)); e != api.OK {
		return nil, e
	}
	p.gate = gate.New(c, me, p.life)
	return p, api.OK
}

func (p *plain) lay(part []byte) api.Errno {
	if p.j.Len() < 64 {
		return p.j.Add([][]byte{part})
	}
	parts := [][]byte{lifePart(p.life)}
	for _, s := range p.shards {
		parts = append(parts, copyPart(s, p.has[s].Stored()))
	}
	return p.j.Checkpoint(parts)
}

// keep tells whether it has gone well.
func (p *plain) keep(s int) bool {
	p.down = p.lay(copyPart(s, p.has[s].Stored())) != api.OK
	return !p.down
}

func (p *plain) hear(b []byte) ([]api.Msg, []api.Done, api.Errno) {
	if p.down {
		return nil, nil, api.ErrNodeDown
	}
	m, e := message.Decode(b)
	if e != api.OK || m.To != p.me {
		return nil, nil, api.OK
	}
	if m.Kind == api.MsgAnswer {
		return nil, p.gate.Hear(m), api.OK
	}
	s := m.Shard
	if m.Kind == api.MsgSettle {
		s = m.Peer
	}
	if !slices.Contains(p.shards, s) {
		return nil, nil, api.OK
	}
	if m.Kind != api.MsgPrepare && m.Kind != api.MsgWrite && m.Kind != api.MsgBeat {
		return p.does[s].Hear(m, false), nil, api.OK
	}
	var out []api.Msg
	h := p.has[s].Hear(m)
	if h.Change && !p.keep(s) {
		return nil, nil, api.ErrNodeDown
	}
	if h.Answered {
		out = append(out, h.Answer)
	}
	return append(out, p.does[s].Hear(m, h.Taken)...), nil, api.OK
}

func (p *plain) tick() ([]api.Msg, api.Errno) {
	if p.down {
		return nil, api.ErrNodeDown
	}
	for _, s := range p.shards {
		p.has[s].Tick()
	}
	var out []api.Msg
	for _, s := range p.shards {
		l, epoch := p.does[s].Tick(p.has[s].Wait() == 0)
		out = append(out, l...)
		if epoch == 0 || !p.has[s].Own(epoch) {
			continue
		}
		if !p.keep(s) {
			return nil, api.ErrNodeDown
		}
		out = append(out, p.does[s].Begin(epoch, p.has[s].Stored())...)
	}
	return append(out, p.gate.Tick()...), api.OK
}

func (p *plain) call(r api.Request) (uint64, []api.Msg, api.Errno) {
	if p.down {
		return 0, nil, api.ErrNodeDown
	}
	return p.gate.Call(r)
}

func (p *plain) stored(s int) (api.Stored, bool) {
	if p.down || !slices.Contains(p.shards, s) {
		return api.Stored{}, false
	}
	return p.has[s].Stored(), true
}

func (p *plain) role(s int) (int, bool, uint64) {
	if p.down || !slices.Contains(p.shards, s) {
		return 0, false, 0
	}
	return p.does[s].Phase(), p.does[s].Holds(), p.does[s].Epoch()
}
