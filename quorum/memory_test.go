package quorum_test

import (
	"slices"
	"testing"

	"tally/api"
	"tally/quorum"
)

// spoil overwrites bytes, and the spare room behind their end.
func spoil(b []byte) {
	b = b[:cap(b)]
	for i := range b {
		b[i] = '!'
	}
}

// wipe empties a list of messages, and the spare room behind its end.
func wipe(l []api.Msg) { clear(l[:cap(l)]) }

// P10.8, R2: what is handed in is not kept: who changes it later changes no quorum.
func TestHandedInIsNotKept(t *testing.T) {
	copies := []int{1, 4, 2}
	q := quorum.New(node, shard, copies)
	copies[0], copies[1], copies[2] = 7, 8, 9
	s := own(at(3, 2), "own")
	sends(t, "Start", q.Start(4, s, 5), "prepare 4 >4,2")
	spoil(s.Value)
	hears(t, q, promise(2, 4, at(0, 0), ""), "write 4.1 own /5 >1,4,2", `writing epoch 4 seen 0 chosen 0.0 "" round 0/0`)

	q.Start(5, own(at(0, 0), "x"), 5)
	m := promise(2, 5, at(1, 1), "told")
	sends(t, "Hear", q.Hear(m, 5), "write 5.1 told /5 >1,4,2")
	spoil(m.Value)
	sends(t, "Tick", q.Tick(5), "write 5.1 told /5 >1,4,2")
	q.Hear(wrote(1, 5, 1), 5)
	q.Hear(wrote(2, 5, 1), 5)
	is(t, "chosen", q, `ready holds epoch 5 seen 0 chosen 5.1 "told" round 0/0`)

	v := []byte("more")
	q.Propose(v, 5)
	spoil(v)
	sends(t, "Tick", q.Tick(5), "write 5.2 more /5 >1,4,2; beat 5.1 /5 >1,4,2")
	q.Hear(wrote(1, 5, 2), 5)
	q.Hear(wrote(2, 5, 2), 5)
	is(t, "chosen", q, `ready holds epoch 5 seen 0 chosen 5.2 "more" round 1/0`)

	// A promise that is kept till others come.
	q = five()
	q.Start(6, own(at(0, 0), "x"), 5)
	m = promise(2, 6, at(1, 1), "kept")
	q.Hear(m, 5)
	spoil(m.Value)
	sends(t, "Hear", q.Hear(promise(4, 6, at(0, 0), ""), 5), "write 6.1 kept /5 >4,0,1,7,2")
}

// P10.8, R2: what is handed in is not changed, nor is the room behind its end, whatever is done later with the quorum and with what it answers.
func TestHandedInIsNotChanged(t *testing.T) {
	row := []int{9, 1, 4, 2, 9, 9}
	first, second, third := []byte("0123456789"), []byte("abcdefghij"), []byte("ABCDEFGHIJ")
	q := quorum.New(node, shard, row[1:4])
	q.Start(4, api.Stored{Tag: at(1, 1), Value: first[2:5]}, 5)
	m := promise(4, 4, at(2, 1), "")
	m.Value = second[2:5]
	for _, x := range q.Hear(m, 5) {
		spoil(x.Value)
	}
	q.Hear(wrote(4, 4, 1), 5)
	q.Hear(wrote(1, 4, 1), 5)
	_, v := q.Chosen()
	spoil(v)
	l, _ := q.Propose(third[2:5], 5)
	for _, x := range append(l, q.Tick(5)...) {
		spoil(x.Value)
	}
	q.Hear(wrote(4, 4, 2), 5)
	q.Hear(wrote(1, 4, 2), 5)
	is(t, "chosen", q, `ready holds epoch 4 seen 0 chosen 4.2 "CDE" round 1/0`)
	if string(first) != "0123456789" || string(second) != "abcdefghij" || string(third) != "ABCDEFGHIJ" || string(m.Value) != "cde" {
		t.Errorf("handed in: %s, %s, %s", first, second, third)
	}
	if !slices.Equal(row, []int{9, 1, 4, 2, 9, 9}) {
		t.Errorf("copies: %v", row)
	}
}

// P10.8, R2: what is answered is new memory, the values of two messages too, and the room behind a list's end.
func TestToldIsNew(t *testing.T) {
	q := three()
	q.Start(4, own(at(0, 0), "value"), 5)
	l := q.Hear(promise(4, 4, at(0, 0), ""), 5)
	again := q.Tick(5)
	spoil(l[0].Value)
	sends(t, "the others", l[1:], "write 4.1 value /5 >4,2")
	spoil(l[1].Value)
	sends(t, "the last", l[2:], "write 4.1 value /5 >2")
	spoil(l[2].Value)
	wipe(l)
	sends(t, "told ahead", again, "write 4.1 value /5 >1,4,2")
	for _, m := range again {
		spoil(m.Value)
	}
	sends(t, "told anew", q.Tick(5), "write 4.1 value /5 >1,4,2")

	q.Hear(wrote(4, 4, 1), 5)
	q.Hear(wrote(1, 4, 1), 5)
	_, one := q.Chosen()
	_, two := q.Chosen()
	spoil(one)
	if _, three := q.Chosen(); string(two) != "value" || string(three) != "value" {
		t.Errorf("Chosen: %s, %s", two, three)
	}
	l, _ = q.Propose([]byte("next"), 5)
	spoil(l[0].Value)
	sends(t, "the others", l[1:], "write 4.2 next /5 >4,2")
	spoil(l[1].Value)
	sends(t, "told anew", q.Tick(5)[:3], "write 4.2 next /5 >1,4,2")

	wipe(q.Tick(5))
	sends(t, "told anew", q.Tick(5), "write 4.2 next /5 >1,4,2; beat 4.1 /5 >1,4,2")
}

// P10.8, R2: one copy alone: the value of the first write is its own.
func TestToldIsNewAlone(t *testing.T) {
	q := quorum.New(node, shard, []int{1})
	s := own(at(0, 0), "value")
	l := q.Start(4, s, 5)
	spoil(l[0].Value)
	if string(s.Value) != "value" {
		t.Errorf("handed in: %s", s.Value)
	}
	sends(t, "Tick", q.Tick(5), "write 4.1 value /5 >1")
}

// P10.8: two quorums have nothing in common, also of one list of copies and one value.
func TestTwo(t *testing.T) {
	copies, s := []int{1, 4, 2}, own(at(0, 0), "v")
	a, b := quorum.New(node, shard, copies), quorum.New(node, shard, copies)
	a.Start(4, s, 5)
	is(t, "the second", b, idle)
	b.Start(4, s, 5)
	hears(t, a, promise(4, 4, at(1, 1), "w"), "write 4.1 w /5 >1,4,2", `writing epoch 4 seen 0 chosen 0.0 "" round 0/0`)
	is(t, "the second", b, `preparing epoch 4 seen 0 chosen 0.0 "" round 0/0`)
	hears(t, b, promise(4, 4, at(0, 0), "x"), "write 4.1 v /5 >1,4,2", `writing epoch 4 seen 0 chosen 0.0 "" round 0/0`)
	deaf(t, a, wrote(4, 4, 1))
	deaf(t, b, wrote(1, 4, 1))
	hears(t, a, wrote(2, 4, 1), "", `ready holds epoch 4 seen 0 chosen 4.1 "w" round 0/0`)
	is(t, "the second", b, `writing epoch 4 seen 0 chosen 0.0 "" round 0/0`)
	hears(t, b, wrote(2, 4, 1), "", `ready holds epoch 4 seen 0 chosen 4.1 "v" round 0/0`)
	a.Tick(5)
	deaf(t, a, beaten(1, 4, 1))
	b.Tick(5)
	deaf(t, b, beaten(2, 4, 1))
	hears(t, a, refuse(1, 4, 9), "", `ready holds epoch 4 seen 9 chosen 4.1 "w" round 1/0`)
	hears(t, b, refuse(2, 4, 5), "", `ready holds epoch 4 seen 5 chosen 4.1 "v" round 1/0`)
	a.Stop()
	is(t, "the second", b, `ready holds epoch 4 seen 5 chosen 4.1 "v" round 1/0`)
	sends(t, "the second", b.Tick(5), "beat 4.1 /5 >1,4")
}
