package quorum

import (
	"testing"

	"tally/api"
)

// Nobody counts to MaxNumber one by one: this test lays the numbers down inside, so it stands in the package.
func ready(t *testing.T) *Quorum {
	t.Helper()
	q := New(1, 0, []int{1, 2, 3})
	q.Start(4, api.Stored{Value: []byte("x")}, 5)
	q.Hear(api.Msg{Head: api.Head{Kind: api.MsgPromise, From: 2, To: 1}, Epoch: 4}, 5)
	store(q, 1)
	if q.Phase() != api.PhaseReady {
		t.Fatalf("phase %d", q.Phase())
	}
	return q
}

// store: two of three copies have stored that seq.
func store(q *Quorum, seq uint64) {
	for from := 2; from <= 3; from++ {
		q.Hear(api.Msg{Head: api.Head{Kind: api.MsgWrote, From: from, To: 1}, Tag: api.Tag{Epoch: 4, Seq: seq}}, 5)
	}
}

func answer(q *Quorum, round uint64) {
	for from := 2; from <= 3; from++ {
		q.Hear(api.Msg{Head: api.Head{Kind: api.MsgBeaten, From: from, To: 1}, Epoch: 4, Round: round}, 5)
	}
}

// P10.5: the last seq is api.MaxNumber; behind it nothing is proposed, and it holds all the same.
func TestLastSeq(t *testing.T) {
	q := ready(t)
	q.chosen.tag.Seq = api.MaxNumber - 2
	for seq := uint64(api.MaxNumber - 1); seq <= api.MaxNumber; seq++ {
		l, ok := q.Propose([]byte("w"), 5)
		if len(l) != 3 || !ok || l[0].Tag != (api.Tag{Epoch: 4, Seq: seq}) {
			t.Fatalf("seq %d: %+v, %v", seq, l, ok)
		}
		store(q, seq)
	}
	for range 2 {
		l, ok := q.Propose([]byte("v"), 5)
		tag, value := q.Chosen()
		if len(l) != 0 || ok || q.Phase() != api.PhaseReady || !q.Holds() || tag.Seq != api.MaxNumber || string(value) != "w" {
			t.Fatalf("behind the last: %+v, %v, phase %d, %v %s", l, ok, q.Phase(), tag, value)
		}
	}
	if l := q.Tick(5); len(l) != 3 || l[0].Kind != api.MsgBeat {
		t.Errorf("it beats no more: %+v", l)
	}
}

// P10.6: the last round is api.MaxNumber; it is sent again as long as it is under way, and behind it none begins; writes go on.
func TestLastRound(t *testing.T) {
	q := ready(t)
	q.begun, q.done = api.MaxNumber-2, api.MaxNumber-2
	for round := uint64(api.MaxNumber - 1); round <= api.MaxNumber; round++ {
		for range 2 {
			if l := q.Tick(5); len(l) != 3 || l[0].Round != round {
				t.Fatalf("round %d: %+v", round, l)
			}
		}
		answer(q, round)
	}
	for range 2 {
		l := q.Tick(5)
		if begun, done := q.Round(); len(l) != 0 || begun != api.MaxNumber || done != api.MaxNumber || !q.Holds() {
			t.Fatalf("behind the last: %+v, round %d, %d", l, begun, done)
		}
	}
	if l, ok := q.Propose([]byte("w"), 5); len(l) != 3 || !ok {
		t.Errorf("Propose: %+v, %v", l, ok)
	}
	if l := q.Tick(5); len(l) != 3 || l[0].Kind != api.MsgWrite {
		t.Errorf("Tick: %+v", l)
	}
}
