package quorum

import (
	"cmp"

	"tally/api"
)

// A deed is what a kind of message does to a quorum, and what is told then.
type deed func(q *Quorum, m api.Msg, span int) []api.Msg

// deeds tells them by kind; the kinds that do nothing are not among them.
func deeds() map[int]deed {
	return map[int]deed{
		api.MsgPromise: (*Quorum).promise,
		api.MsgWrote:   (*Quorum).wrote,
		api.MsgRefuse:  (*Quorum).refuse,
		api.MsgBeaten:  (*Quorum).beaten,
	}
}

func (q *Quorum) promise(m api.Msg, span int) []api.Msg {
	if q.phase != api.PhasePreparing || m.Epoch != q.epoch || !q.counted.add(m.From) {
		return nil
	}
	// Only a greater one: of equal tags the first that was counted stays.
	if compare(m.Tag, q.next.tag) > 0 {
		q.next = stored{m.Tag, string(m.Value)}
	}
	if !q.majority(len(q.counted)) {
		return nil
	}
	return q.takeUp(span)
}

func (q *Quorum) wrote(m api.Msg, _ int) []api.Msg {
	if q.phase != api.PhaseWriting || m.Tag != q.next.tag || !q.counted.add(m.From) {
		return nil
	}
	if q.majority(len(q.counted)) {
		q.phase, q.chosen, q.next = api.PhaseReady, q.next, stored{}
	}
	return nil
}

func (q *Quorum) refuse(m api.Msg, _ int) []api.Msg {
	q.seen = max(q.seen, m.Seen)
	if q.phase == api.PhaseIdle || m.Epoch != q.epoch || m.Seen <= q.epoch {
		return nil
	}
	// Who holds is not ended by one impatient node, as long as the others can be a majority.
	if q.Holds() {
		q.refused.add(m.From)
		if q.majority(len(q.copies) - len(q.refused)) {
			return nil
		}
	}
	q.Stop()
	return nil
}

func (q *Quorum) beaten(m api.Msg, _ int) []api.Msg {
	if !q.Holds() || !q.underWay() || m.Epoch != q.epoch || m.Round != q.begun || !q.answered.add(m.From) {
		return nil
	}
	if q.majority(len(q.answered)) {
		q.done = q.begun
	}
	return nil
}

// takeUp writes the greatest that a majority has promised, as the epoch's first.
func (q *Quorum) takeUp(span int) []api.Msg {
	return q.write(1, q.next.value, span)
}

// write begins to write a value: nobody has stored it yet.
func (q *Quorum) write(seq uint64, value string, span int) []api.Msg {
	q.phase = api.PhaseWriting
	q.next = stored{api.Tag{Epoch: q.epoch, Seq: seq}, value}
	clear(q.counted)
	return q.writes(span)
}

// round sends the round under way again; if none is, it begins the next one, as long as there are numbers.
func (q *Quorum) round(span int) []api.Msg {
	if !q.underWay() {
		if q.begun >= api.MaxNumber {
			return nil
		}
		q.begun++
		clear(q.answered)
	}
	return q.beats(span)
}

func (q *Quorum) underWay() bool { return q.begun != q.done }

// majority tells whether so many copies are more than half of them.
func (q *Quorum) majority(n int) bool { return 2*n > len(q.copies) }

// compare tells which of two tags is the greater one: above 0 the first, below 0 the second, 0 none.
func compare(a, b api.Tag) int {
	return cmp.Or(cmp.Compare(a.Epoch, b.Epoch), cmp.Compare(a.Seq, b.Seq))
}
