package message_test

import (
	"bytes"
	"encoding/binary"
	"math"
	"math/rand"
	"slices"
	"testing"

	"tally/api"
	"tally/message"
)

// The chapter's example 5.
func TestExamplesUnread(t *testing.T) {
	unread(t, "nothing", nil, api.ErrMessageForm)
	unread(t, "a wrong sum", unhex(t, "01 01 02 00 05 00 00 00 00"), api.ErrMessageSum)
	unread(t, "without its epoch", seal(unhex(t, "01 01 02 00")...), api.ErrMessageForm)
	unread(t, "not the shortest form", seal(unhex(t, "01 01 02 00 85 00")...), api.ErrMessageForm)
}

// P8.2: too few and too many bytes are told ahead of a wrong sum, a wrong sum ahead of all else.
func TestOrder(t *testing.T) {
	for n := range 4 {
		unread(t, "too few", make([]byte, n), api.ErrMessageForm)
		unread(t, "too few", bytes.Repeat([]byte{0xff}, n), api.ErrMessageForm)
	}
	unread(t, "nothing and its sum", seal(), api.ErrMessageForm)
	unread(t, "nothing and a wrong sum", []byte{0, 0, 0, 1}, api.ErrMessageSum)
	unread(t, "too many", make([]byte, api.MaxMessage+1), api.ErrMessageForm)
	unread(t, "too many, with their sum", seal(make([]byte, api.MaxMessage-3)...), api.ErrMessageForm)
	unread(t, "far too many", make([]byte, 1<<20), api.ErrMessageForm)
	unread(t, "as many as may be", make([]byte, api.MaxMessage), api.ErrMessageSum)
	unread(t, "as many as may be, with their sum", seal(make([]byte, api.MaxMessage-4)...), api.ErrMessageForm)
	for _, s := range []string{"00 00 00 00", "0c 00 00 00 05", "01 09 00 00 05", "01 01 02 00", "01 01 02 00 85 00", "01 01 02 00 05 00"} {
		b := seal(unhex(t, s)...)
		unread(t, "with its sum", b, api.ErrMessageForm)
		b[len(b)-1] ^= 0x10
		unread(t, "with a wrong sum", b, api.ErrMessageSum)
	}
}

// P8.2: the sum stands with its highest byte first.
func TestSumTurned(t *testing.T) {
	b := seal(body(middle(api.MsgBeat))...)
	slices.Reverse(b[len(b)-4:])
	unread(t, "the sum turned round", b, api.ErrMessageSum)
}

// P8.2: all first bytes that are no kind, ahead of what every kind reads.
func TestReadNoKind(t *testing.T) {
	for _, kind := range kinds() {
		for k := range 256 {
			b := body(middle(kind))
			b[0] = byte(k)
			if k < api.MsgPrepare || k > api.MsgAnswer {
				unread(t, "no kind", seal(b...), api.ErrMessageForm)
			}
		}
	}
}

// P8.2: nodes and shards beyond theirs.
func TestReadHeads(t *testing.T) {
	for _, kind := range kinds() {
		for i, count := range []int{1: api.MaxNodes, 2: api.MaxNodes, 3: api.MaxShards} {
			for n := count; i > 0 && n < 256; n++ {
				b := body(middle(kind))
				b[i] = byte(n)
				unread(t, "a head", seal(b...), api.ErrMessageForm)
			}
		}
	}
}

// P8.2: bytes that tell a part beyond its bounds. (The bytes of a part of one byte tell no more than 255.)
func TestReadBeyond(t *testing.T) {
	for _, kind := range kinds() {
		for _, p := range usedParts(kind) {
			for _, m := range []api.Msg{of(kind), middle(kind), most(kind)} {
				for _, n := range beyond(p) {
					p.set(&m, n)
					if b := seal(body(m)...); p.most > 255 || n < 256 {
						unread(t, p.name, b, api.ErrMessageForm)
					}
				}
			}
		}
	}
}

// P8.2: cut anywhere, or with a byte more.
func TestCut(t *testing.T) {
	for _, kind := range kinds() {
		for _, m := range []api.Msg{of(kind), middle(kind)} {
			b := body(m)
			for n := range len(b) {
				unread(t, "cut", seal(b[:n]...), api.ErrMessageForm)
			}
			for c := range 256 {
				unread(t, "a byte more", seal(append(slices.Clone(b), byte(c))...), api.ErrMessageForm)
			}
		}
	}
}

// P8.2: a number in a longer form than it needs, wherever a Var stands; and one that is beyond 64 bits.
func TestLongForms(t *testing.T) {
	for _, kind := range kinds() {
		for _, p := range usedParts(kind) {
			if p.most <= 255 && p.name != "Name" && p.name != "Other" {
				continue
			}
			m := of(kind)
			b := body(m)
			p.set(&m, 1)
			c := body(m)
			at := 0 // where the part begins: the first byte that changes with it
			for b[at] == c[at] {
				at++
			}
			for _, form := range []string{"80 00", "80 80 00", "80 80 80 80 80 80 80 80 80 00", "80 80 80 80 80 80 80 80 80 02", "80 80 80 80 80 80 80 80 80 80 00"} {
				unread(t, p.name, seal(slices.Concat(b[:at], unhex(t, form), b[at+1:])...), api.ErrMessageForm)
			}
		}
	}
}

// P8.2, P8.3: all wrotes with two bytes behind their heads: just those are messages whose bytes are each a number.
func TestAllWrotes(t *testing.T) {
	for x := range 256 {
		for y := range 256 {
			b := seal(api.MsgWrote, 1, 2, 3, byte(x), byte(y))
			if x > 127 || y > 127 {
				unread(t, "no wrote", b, api.ErrMessageForm)
				continue
			}
			m := of(api.MsgWrote)
			m.Tag = api.Tag{Epoch: uint64(x), Seq: uint64(y)}
			is(t, m, b)
		}
	}
}

// P8.1, P8.2, P8.3: drawn messages are written as the chapter's table says, and read again.
func TestDrawn(t *testing.T) {
	r := rand.New(rand.NewSource(8))
	for range 20000 {
		m := draw(r)
		is(t, m, seal(body(m)...))
	}
}

// P8.2, P8.3: drawn bytes with their sum: what is read of them is written as them; what is not is refused as having no form.
func TestDrawnBytes(t *testing.T) {
	r := rand.New(rand.NewSource(80))
	read := 0
	for range 60000 {
		m := draw(r)
		m.Value = m.Value[:min(len(m.Value), 40)]
		b := body(m)
		for range r.Intn(4) {
			b[r.Intn(len(b))] = []byte{0, 1, 0x7f, 0x80, byte(r.Intn(12)), byte(r.Intn(256))}[r.Intn(6)]
		}
		b = seal(b[:len(b)-r.Intn(20)/19]...)
		m, e := message.Decode(b)
		if e == api.ErrMessageForm && same(m, api.Msg{}) {
			continue
		}
		read++
		if c, again := message.Encode(m); e != api.OK || again != api.OK || !bytes.Equal(b, c) {
			t.Fatalf("%x is read as %s, %d, and that is written as %x, %d", b, told(m), e, c, again)
		}
	}
	if read < 10000 {
		t.Errorf("only %d were messages", read)
	}
}

// P8.3: no two messages have the same bytes: all with 0, 1 or 2 in what they use.
func TestNoTwo(t *testing.T) {
	seen := map[string]api.Msg{}
	var each func(m api.Msg, l []part)
	each = func(m api.Msg, l []part) {
		if len(l) > 0 {
			for n := range 3 {
				if l[0].name == "Bad" && n > 0 {
					n += 300
				}
				l[0].set(&m, uint64(n))
				each(m, l[1:])
			}
			return
		}
		b, e := message.Encode(m)
		if other, there := seen[string(b)]; e != api.OK || there {
			t.Fatalf("%s and %s: %x, %d", told(m), told(other), b, e)
		}
		seen[string(b)] = m
	}
	for _, kind := range kinds() {
		each(of(kind), usedParts(kind))
	}
}

// P8.4: with one bit turned, the bytes of a message are none: all bits of short messages, some of the longest.
func TestBitTurned(t *testing.T) {
	for _, kind := range kinds() {
		for _, m := range []api.Msg{of(kind), middle(kind), most(kind)} {
			b := seal(body(m)...)
			step := 1
			if len(b) > 1000 {
				step = 509
			}
			for bit := 0; bit < 8*len(b); bit += step {
				b[bit/8] ^= 1 << (bit % 8)
				unread(t, "a bit turned", b, api.ErrMessageSum)
				b[bit/8] ^= 1 << (bit % 8)
			}
			is(t, m, b)
		}
	}
}

// R1: whatever the bytes, without a sum that fits or with one.
func TestAnything(t *testing.T) {
	r := rand.New(rand.NewSource(81))
	for range 20000 {
		b := make([]byte, r.Intn(60))
		r.Read(b)
		if len(b) > 0 && r.Intn(4) > 0 {
			b[0] = byte(r.Intn(13))
		}
		message.Decode(b)
		message.Decode(seal(b...))
	}
	for _, kind := range kinds() {
		for n := range 20 {
			b := append([]byte{byte(kind), 0, 0, 0}, bytes.Repeat([]byte{0xff}, n)...)
			unread(t, "all bits set", seal(b...), api.ErrMessageForm)
			unread(t, "a length beyond all", seal(binary.AppendUvarint(b, math.MaxUint64)...), api.ErrMessageForm)
		}
	}
}
