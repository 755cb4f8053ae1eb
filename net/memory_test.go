package net_test

import "testing"

// spoil overwrites bytes, and the spare room behind their end.
func spoil(b []byte) {
	b = b[:cap(b)]
	for i := range b {
		b[i] = '!'
	}
}

// P6.6, R2: bytes that are handed in are not kept: who changes them later changes no message.
func TestHandedInIsNotKept(t *testing.T) {
	n := open(t, 3)
	b := []byte("abcdef")
	yes(t, "Send", n.Send(1, b[:3]))
	yes(t, "Send", n.Send(2, b[2:4]))
	yes(t, "Double", n.Double(0))
	spoil(b)
	is(t, "spoilt", n, "1abc 2cd 1abc lost 0")
}

// P6.6, R2: bytes that are handed in are not changed, nor is the room behind their end, whether they are sent or lost.
func TestHandedInIsNotChanged(t *testing.T) {
	n := open(t, 2)
	b := []byte("abcdef")
	for range 3 {
		n.Send(1, b[:3])
	}
	n.Double(0)
	n.Drop(0)
	n.Double(0)
	f, _ := n.Take(0)
	spoil(f.Bytes)
	if string(b) != "abcdef" {
		t.Errorf("handed in: %s, want abcdef", b)
	}
}

// P6.6, R2: what is told is new memory: who changes it, and the room behind it, changes no message, no double, and no other answer.
func TestToldIsNew(t *testing.T) {
	n := sent(t, 4, "abc", "de")
	yes(t, "Double", n.Double(0))
	one, _ := n.Look(0)
	two, _ := n.Look(0)
	double, _ := n.Look(2)
	spoil(one.Bytes)
	is(t, "spoilt", n, "0abc 1de 0abc lost 0")
	if told(two) != "0abc" || told(double) != "0abc" {
		t.Errorf("other answers: %s, %s, want 0abc", told(two), told(double))
	}
	out, _ := n.Take(0)
	if told(out) != "0abc" {
		t.Errorf("taken out: %s, want 0abc", told(out))
	}
	spoil(out.Bytes)
	spoil(two.Bytes)
	is(t, "the first taken out", n, "1de 0abc lost 0")
	if told(double) != "0abc" {
		t.Errorf("the double: %s, want 0abc", told(double))
	}
}

// P6.6: two nets have nothing in common.
func TestTwoNets(t *testing.T) {
	a, b := sent(t, 1, "a"), sent(t, 2, "x")
	no(t, "Send", a.Send(5, []byte("lost")))
	is(t, "the other", b, "0x lost 0")
	yes(t, "Double", b.Double(0))
	yes(t, "Drop", b.Drop(0))
	yes(t, "Send", b.Send(3, []byte("y")))
	is(t, "the first", a, "0a lost 1")
	is(t, "the second", b, "0x 3y lost 0")
}
