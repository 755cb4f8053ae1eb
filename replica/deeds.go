package replica

import (
	"cmp"

	"tally/api"
)

// A deed is what a kind of message does to a copy.
type deed func(r *Replica, m api.Msg) Heard

// deeds tells them by kind; the kinds that do nothing are not among them.
func deeds() map[int]deed {
	return map[int]deed{
		api.MsgPrepare: (*Replica).prepare,
		api.MsgWrite:   (*Replica).write,
		api.MsgBeat:    (*Replica).beat,
	}
}

func (r *Replica) prepare(m api.Msg) Heard {
	if m.Epoch < r.promised || m.Epoch > r.promised && r.wait > 0 {
		return r.refuse(m, m.Epoch)
	}
	change := r.promise(m.Epoch)
	a := answer(m, api.MsgPromise)
	a.Epoch, a.Tag, a.Value = m.Epoch, r.tag, []byte(r.value)
	return Heard{Answer: a, Answered: true, Change: change}
}

func (r *Replica) write(m api.Msg) Heard {
	if m.Tag.Epoch < r.promised {
		return r.refuse(m, m.Tag.Epoch)
	}
	h := Heard{Taken: true, Change: r.promise(m.Tag.Epoch)}
	r.keepOut(m.Span)
	order := compare(m.Tag, r.tag)
	if order > 0 {
		r.tag, r.value = m.Tag, string(m.Value)
		h.Change = true
	}
	// A wrote says that the copy has that very tag: of a lesser one it must not be said.
	if order >= 0 {
		h.Answer, h.Answered = answer(m, api.MsgWrote), true
		h.Answer.Tag = m.Tag
	}
	return h
}

func (r *Replica) beat(m api.Msg) Heard {
	if m.Epoch < r.promised {
		return r.refuse(m, m.Epoch)
	}
	change := r.promise(m.Epoch)
	r.keepOut(m.Span)
	a := answer(m, api.MsgBeaten)
	a.Epoch, a.Round = m.Epoch, m.Round
	return Heard{Answer: a, Answered: true, Taken: true, Change: change}
}

// refuse tells who asks what is promised. The epoch is handed in, since a write has it in its tag.
func (r *Replica) refuse(m api.Msg, epoch uint64) Heard {
	a := answer(m, api.MsgRefuse)
	a.Epoch, a.Seen = epoch, r.promised
	return Heard{Answer: a, Answered: true}
}

// answer makes a message of a kind that goes back where m came from.
func answer(m api.Msg, kind int) api.Msg {
	return api.Msg{Head: api.Head{Kind: kind, From: m.To, To: m.From, Shard: m.Shard}}
}

// compare tells which of two tags is the greater one: above 0 the first, below 0 the second, 0 none.
func compare(a, b api.Tag) int {
	return cmp.Or(cmp.Compare(a.Epoch, b.Epoch), cmp.Compare(a.Seq, b.Seq))
}
