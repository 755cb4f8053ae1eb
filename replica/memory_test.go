package replica_test

import (
	"testing"

	"tally/api"
	"tally/replica"
)

// spoil overwrites bytes, and the spare room behind their end.
func spoil(b []byte) {
	b = b[:cap(b)]
	for i := range b {
		b[i] = '!'
	}
}

// P9.5, R2: what is handed in is not kept: who changes it later changes no replica.
func TestHandedInIsNotKept(t *testing.T) {
	v := []byte("v")
	r := replica.New(v)
	spoil(v)
	is(t, "New", r, `0 (0, 0) "v" wait 0`)

	s := api.Stored{Promised: 1, Value: []byte("s")}
	r = replica.Load(s, 0)
	spoil(s.Value)
	s.Promised, s.Tag.Seq = 9, 9
	is(t, "Load", r, `1 (0, 0) "s" wait 0`)

	m := write(2, 1, "w", 3)
	h := r.Hear(m)
	spoil(m.Value)
	is(t, "Hear", r, `2 (2, 1) "w" wait 3`)
	if !same(h.Answer, wrote(2, 1)) {
		t.Errorf("the answer has become %+v", h.Answer)
	}
}

// P9.5, R2: what is handed in is not changed, nor is the room behind its end, whatever is done with the replica later.
func TestHandedInIsNotChanged(t *testing.T) {
	first, second, third := []byte("0123456789"), []byte("abcdefghij"), []byte("ABCDEFGHIJ")
	for _, r := range []*replica.Replica{replica.New(first[2:5]), replica.Load(api.Stored{Value: second[2:5]}, 0)} {
		spoil(r.Stored().Value)
		spoil(r.Hear(prepare(1)).Answer.Value)
		m := write(1, 1, "", 0)
		m.Value = third[2:5]
		r.Hear(m)
		spoil(r.Stored().Value)
		spoil(r.Hear(prepare(1)).Answer.Value)
		r.Hear(write(1, 2, "longer than those", 0))
		r.Hear(write(1, 3, "x", 0))
		if string(m.Value) != "CDE" || m.Tag != (api.Tag{Epoch: 1, Seq: 1}) {
			t.Errorf("the message has become %+v", m)
		}
	}
	if string(first) != "0123456789" || string(second) != "abcdefghij" || string(third) != "ABCDEFGHIJ" {
		t.Errorf("handed in: %s, %s, %s", first, second, third)
	}
}

// P9.5, R2: values that are told are new memory: who changes one, and the room behind it, changes no replica and no other answer.
func TestToldIsNew(t *testing.T) {
	r := replica.New(nil)
	r.Hear(write(2, 1, "value", 0))
	one, two := r.Stored(), r.Stored()
	first, second := r.Hear(prepare(3)).Answer, r.Hear(prepare(3)).Answer
	spoil(one.Value)
	spoil(first.Value)
	is(t, "spoilt", r, `3 (2, 1) "value" wait 0`)
	if string(two.Value) != "value" || !same(second, promise(3, api.Tag{Epoch: 2, Seq: 1}, "value")) {
		t.Errorf("other answers: %s, %s", two.Value, second.Value)
	}
	r.Hear(write(3, 1, "other", 0))
	if string(two.Value) != "value" || string(second.Value) != "value" {
		t.Errorf("behind another write: %s, %s", two.Value, second.Value)
	}
}

// P9.5: two replicas have nothing in common, also of one value.
func TestTwo(t *testing.T) {
	v := []byte("v")
	a, b, c := replica.New(v), replica.New(v), replica.Load(api.Stored{Value: v}, 2)
	hears(t, a, write(4, 1, "w", 5), wrote(4, 1), "TC")
	if !b.Own(7) {
		t.Errorf("Own(7)")
	}
	c.Tick()
	is(t, "the first", a, `4 (4, 1) "w" wait 5`)
	is(t, "the second", b, `7 (0, 0) "v" wait 0`)
	is(t, "the third", c, `0 (0, 0) "v" wait 1`)
	spoil(b.Stored().Value)
	d := replica.Load(a.Stored(), a.Wait())
	hears(t, d, write(6, 1, "x", 0), wrote(6, 1), "TC")
	is(t, "the first", a, `4 (4, 1) "w" wait 5`)
	is(t, "the third", c, `0 (0, 0) "v" wait 1`)
}

// R3: a value of no bytes, nil or not, stored or told.
func TestNoValue(t *testing.T) {
	for _, v := range [][]byte{nil, {}, []byte("xyz")[:0]} {
		r := replica.New([]byte("first"))
		m := write(1, 1, "", 0)
		m.Value = v
		hears(t, r, m, wrote(1, 1), "TC")
		is(t, "no bytes", r, `1 (1, 1) "" wait 0`)
		hears(t, r, prepare(2), promise(2, api.Tag{Epoch: 1, Seq: 1}, ""), "C")
	}
}
