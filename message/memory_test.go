package message_test

import (
	"runtime"
	"testing"

	"tally/api"
	"tally/message"
)

// spoil overwrites bytes, and the spare room behind their end.
func spoil(b []byte) {
	b = b[:cap(b)]
	for i := range b {
		b[i] = '!'
	}
}

// P8.5, R2: what is handed in is not changed, nor is the room behind its end, whatever the answer.
func TestHandedInIsNotChanged(t *testing.T) {
	for _, kind := range []int{api.MsgWrite, api.MsgPromise, api.MsgBeat, 0} {
		room := []byte("0123456789")
		m := of(kind)
		m.Value = room[2:5]
		b, _ := message.Encode(m)
		spoil(b)
		if string(room) != "0123456789" || string(m.Value) != "234" {
			t.Errorf("kind %d: the value has become %s in %s", kind, m.Value, room)
		}
	}
	for _, kind := range kinds() {
		whole := seal(body(middle(kind))...)
		for _, wrong := range []byte{0, 1} {
			in := append(append([]byte(nil), whole...), "behind"...)
			in[5] ^= wrong
			was := string(in)
			m, _ := message.Decode(in[:len(whole)])
			spoil(m.Value)
			if string(in) != was {
				t.Errorf("kind %d: the bytes have become %x, they were %x", kind, in, was)
			}
		}
	}
}

// P8.5, R2: what is handed in is not kept: who changes it later changes no answer.
func TestHandedInIsNotKept(t *testing.T) {
	m := of(api.MsgWrite)
	m.Value = []byte("value")
	want := string(seal(body(m)...))
	b, _ := message.Encode(m)
	spoil(m.Value)
	if string(b) != want {
		t.Errorf("Encode: %x, want %x", b, want)
	}
	for _, kind := range kinds() {
		in := seal(body(middle(kind))...)
		got, e := message.Decode(in)
		spoil(in)
		if e != api.OK || !same(got, middle(kind)) {
			t.Errorf("Decode: %v, %d, want %v", got, e, middle(kind))
		}
	}
}

// P8.5, R2: answers are new memory, the room behind their ends too.
func TestAnswersAreNew(t *testing.T) {
	for _, kind := range kinds() {
		m := middle(kind)
		want := string(seal(body(m)...))
		one, _ := message.Encode(m)
		two, _ := message.Encode(m)
		spoil(one)
		if string(two) != want {
			t.Errorf("Encode: %x, want %x", two, want)
		}
		first, _ := message.Decode([]byte(want))
		second, _ := message.Decode([]byte(want))
		spoil(first.Value)
		if !same(second, m) {
			t.Errorf("Decode: %v, want %v", second, m)
		}
		is(t, m, []byte(want))
	}
}

// P8.5: Decode takes no memory by lengths that the bytes tell: a value that is told and not there costs what no value costs.
func TestToldLengths(t *testing.T) {
	none := taken(seal(unhex(t, "02 00 00 00 01 01 01 00")...))
	for _, s := range []string{
		"02 00 00 00 01 01 01 80 80 01",                      // MaxValue
		"02 00 00 00 01 01 01 81 80 01",                      // one more
		"02 00 00 00 01 01 01 ff ff ff 7f",                   // 2^28 - 1
		"02 00 00 00 01 01 01 ff ff ff ff ff ff ff ff ff 01", // 2^64 - 1
		"04 00 00 00 01 01 01 80 80 01 00",
		"08 00 00 00 01 01 ff ff ff 7f",
	} {
		b := seal(unhex(t, s)...)
		unread(t, "told and not there", b, api.ErrMessageForm)
		if got := taken(b); got > none+1000 {
			t.Errorf("Decode(%x) takes %d bytes, of a message without a value %d", b, got, none)
		}
	}
}

// taken: how many bytes of memory one Decode takes.
func taken(b []byte) uint64 {
	const times = 100
	var ahead, behind runtime.MemStats
	runtime.ReadMemStats(&ahead)
	for range times {
		message.Decode(b)
	}
	runtime.ReadMemStats(&behind)
	return (behind.TotalAlloc - ahead.TotalAlloc) / times
}

// P8.1, P8.2: an answer hangs on what is given alone, not on calls ahead of it.
func TestNothingIsKept(t *testing.T) {
	for range 2 {
		for _, kind := range kinds() {
			is(t, middle(kind), seal(body(middle(kind))...))
			unwritten(t, "no kind", of(0), api.ErrMessageKind)
			unread(t, "nothing", nil, api.ErrMessageForm)
			is(t, most(kind), seal(body(most(kind))...))
			is(t, of(kind), seal(body(of(kind))...))
		}
	}
}
