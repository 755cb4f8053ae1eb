package node

import (
	"tally/api"
	"tally/replica"
	"tally/writer"
)

// local is a copy of the node's own, with the writer of its shard.
type local struct {
	*replica.Replica
	shard  int
	writer *writer.Writer
}

func newLocal(c api.Config, me int, k kept) *local {
	return &local{
		Replica: replica.Load(k.Stored, api.FirstPatience),
		shard:   k.shard,
		writer:  writer.New(c, me, k.shard, k.Promised),
	}
}

func (l *local) part() []byte { return copyPart(l.shard, l.Stored()) }

// hear hands a message to the copy, if it is for copies, and then to the writer; keep is called ahead of all that is told of a change.
func (l *local) hear(m api.Msg, keep func(*local)) []api.Msg {
	var out []api.Msg
	taken := false
	if hearers[m.Kind].replica {
		h := l.Hear(m)
		taken = h.Taken
		if h.Change {
			keep(l)
		}
		if h.Answered {
			out = append(out, h.Answer)
		}
	}
	return append(out, l.writer.Hear(m, taken)...)
}

// tick lets the writer tick, behind all copies of the node; an epoch that it begins is kept as the copy's own promise ahead of its first message.
func (l *local) tick(keep func(*local)) []api.Msg {
	out, epoch := l.writer.Tick(l.Wait() == 0)
	if epoch == 0 || !l.Own(epoch) {
		return out
	}
	keep(l)
	return append(out, l.writer.Begin(epoch, l.Stored())...)
}
