package writer

import "tally/api"

// A hearing is what a kind of message does to a writer, and what is told then; taken: the own copy has taken it.
type hearing func(w *Writer, m api.Msg, taken bool) []api.Msg

// kinds tells them by kind; the kinds that do nothing are not among them.
func kinds() map[int]hearing {
	return map[int]hearing{
		api.MsgPrepare: (*Writer).hearPrepare,
		api.MsgWrite:   (*Writer).hearWrite,
		api.MsgBeat:    (*Writer).hearBeat,
		api.MsgPromise: (*Writer).hearCopy,
		api.MsgWrote:   (*Writer).hearCopy,
		api.MsgRefuse:  (*Writer).hearCopy,
		api.MsgBeaten:  (*Writer).hearCopy,
		api.MsgAsk:     (*Writer).hearAsk,
		api.MsgSettle:  (*Writer).hearSettle,
		api.MsgSettled: (*Writer).hearSettled,
	}
}

// about tells to which shard a message goes: a settle to the one that is to be credited, not to the source that it names.
func about(m api.Msg) int {
	if m.Kind == api.MsgSettle {
		return m.Peer
	}
	return m.Shard
}

func (w *Writer) hearPrepare(m api.Msg, taken bool) []api.Msg {
	w.hearRival(m.From, m.Epoch, true, taken)
	return nil
}

func (w *Writer) hearWrite(m api.Msg, taken bool) []api.Msg {
	w.hearRival(m.From, m.Tag.Epoch, false, taken)
	return nil
}

func (w *Writer) hearBeat(m api.Msg, taken bool) []api.Msg {
	w.hearRival(m.From, m.Epoch, false, taken)
	return nil
}

// hearRival notes another node's epoch, and stands by if that node has the greater one.
func (w *Writer) hearRival(from int, epoch uint64, prepare, taken bool) {
	if from == w.node {
		return
	}
	w.lease.Heard(epoch, prepare, taken)
	if w.Phase() == api.PhaseIdle || epoch <= w.Epoch() {
		return
	}
	// A prepare is one impatient node's: that alone does not end holding.
	if prepare && w.Holds() {
		return
	}
	w.standBy()
}

// hearCopy takes what a copy answers to a prepare, write or beat.
func (w *Writer) hearCopy(m api.Msg, _ bool) []api.Msg {
	phase, held := w.Phase(), w.Holds()
	_, was := w.Round()
	out := w.Quorum.Hear(m, w.lease.Span())
	w.lease.Heard(w.Seen(), false, false)
	if phase != api.PhaseIdle && w.Phase() == api.PhaseIdle {
		w.standBy()
		return out
	}
	// Its lease runs from the begin of holding on, as if a round were done then.
	if !held && w.Holds() {
		w.lease.Begun()
		w.lease.Done()
	}
	if phase == api.PhaseWriting && w.Phase() == api.PhaseReady {
		out = append(out, w.takeChosen()...)
	}
	if _, done := w.Round(); done != was {
		w.lease.Done()
		out = append(out, w.waits.told(done, w.book)...)
	}
	return append(out, w.goOn()...)
}

func (w *Writer) hearAsk(m api.Msg, _ bool) []api.Msg {
	if w.book == nil {
		return nil
	}
	switch m.Op {
	case api.CallSubmit:
		w.waits.ask(newSubmit(m))
		return w.goOn()
	case api.CallBalance, api.CallStatus:
		w.waits.read(newRead(m))
	}
	return nil
}

func (w *Writer) hearSettle(m api.Msg, _ bool) []api.Msg {
	if w.book == nil || m.Shard == w.shard || m.Shard < 0 || m.Shard >= w.c.Shards {
		return nil
	}
	d := newCredit(m)
	mark := w.book.Marks[m.Shard]
	if m.Number <= mark {
		return d.answer(*w.book)
	}
	if m.Number > mark+1 {
		return nil
	}
	w.waits.credits[m.Shard] = d
	return w.goOn()
}

func (w *Writer) hearSettled(m api.Msg, _ bool) []api.Msg {
	if w.book == nil || !w.settle.Wants(m.Peer, m.Number) {
		return nil
	}
	w.waits.settleds[m.Peer] = newSettled(m)
	return w.goOn()
}
