package writer

import (
	"slices"

	"tally/api"
	"tally/shard"
)

// waits is what waits at a holder.
type waits struct {
	credits, settleds [api.MaxShards]deed // one for each other shard; nil: none
	asks              []*submit
	reads             []read
}

// read is an ask for a balance or a status.
type read struct {
	request api.Request
	back    api.Msg
	round   uint64 // to which it belongs; 0: none yet
}

func newRead(m api.Msg) read { return read{request: requestOf(m), back: answerTo(m)} }

// same tells whether another one is of the same call.
func (r read) same(o read) bool { return r.back.To == o.back.To && r.back.Call == o.back.Call }

func (r read) answer(b api.Book) api.Msg {
	back := r.back
	if r.request.Op == api.CallBalance {
		back.Amount, back.Bad = shard.Balance(b, r.request.Name)
	} else {
		back.State, back.Bad = shard.Status(b, r.request.Client, r.request.Number)
	}
	return back
}

// ask lets an ask to submit wait: in the place of one of the same request, or behind the others as long as there is room.
func (w *waits) ask(d *submit) {
	at := slices.IndexFunc(w.asks, d.same)
	switch {
	case at >= 0:
		w.asks[at] = d
	case len(w.asks) < api.MaxAsks:
		w.asks = append(w.asks, d)
	}
}

// read lets one wait, if none of its call does, as long as there is room.
func (w *waits) read(r read) {
	if len(w.reads) < api.MaxAsks && !slices.ContainsFunc(w.reads, r.same) {
		w.reads = append(w.reads, r)
	}
}

// next takes out whose turn it is; nil, if nothing waits.
func (w *waits) next() deed {
	if d := takeFirst(&w.credits); d != nil {
		return d
	}
	if d := takeFirst(&w.settleds); d != nil {
		return d
	}
	if len(w.asks) == 0 {
		return nil
	}
	d := w.asks[0]
	w.asks = slices.Delete(w.asks, 0, 1)
	return d
}

func takeFirst(row *[api.MaxShards]deed) deed {
	for i, d := range row {
		if d != nil {
			row[i] = nil
			return d
		}
	}
	return nil
}

// join lets the reads that have come ahead of a round's begin belong to it.
func (w *waits) join(round uint64) {
	for i := range w.reads {
		if w.reads[i].round == 0 {
			w.reads[i].round = round
		}
	}
}

// told takes out the reads that belong to the rounds up to one that is done, and answers them. (Without a book there are none.)
func (w *waits) told(done uint64, b *api.Book) []api.Msg {
	var out []api.Msg
	var stay []read
	for _, r := range w.reads {
		if r.round == 0 || r.round > done {
			stay = append(stay, r)
		} else {
			out = append(out, r.answer(*b))
		}
	}
	w.reads = stay
	return out
}
