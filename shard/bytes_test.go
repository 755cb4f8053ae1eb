package shard_test

import (
	"bytes"
	"encoding/binary"
	"fmt"
	"math"
	"math/rand"
	"slices"
	"strings"
	"testing"

	"tally/api"
	"tally/shard"
	"tally/text"
)

// refused: Decode takes these bytes for no book, and answers nothing else.
func refused(t *testing.T, what string, l []byte) {
	t.Helper()
	if b, bad := shard.Decode(l); bad != api.ErrShardForm || told(b) != told(api.Book{}) {
		t.Errorf("P12.3: %s: %x: %d, %s", what, l, bad, told(b))
	}
}

// P12.3: the bytes of a book, written out.
func TestEncode(t *testing.T) {
	b := api.Book{Shard: 1, Next: []uint64{300, 1}, Marks: []uint64{2, 0}}
	b.Accounts = []api.Account{{Name: "Zed", Balance: 5}, {Name: "zoe", Balance: 300}}
	b.Queue = []api.Entry{entry(0, 299, "al", 128)}
	b.Slots = []api.Slot{{Number: 9, Peer: 0, Entry: 299}, {Number: 300, Bad: api.BadNumber}}
	want := "\x01\x02\x03Zed\x05\x03zoe\xac\x02\x01\x00\xab\x02\x02al\x80\x01\x02\xac\x02\x02\x01\x00\x02\x09\x00\x00\xab\x02\xac\x02\xb3\x02\x00\x00"
	if l := shard.Encode(b); string(l) != want {
		t.Errorf("P12.3: %x, want %x", l, want)
	}
	if got, bad := shard.Decode([]byte(want)); bad != api.OK || told(got) != told(b) {
		t.Errorf("P12.3: %d, %s", bad, told(got))
	}
	may(t, "written out", b, true)
}

// P12.3: cut anywhere, with a byte more, with nothing.
func TestCut(t *testing.T) {
	l := shard.Encode(ample())
	for n := range l {
		refused(t, "cut", l[:n])
	}
	for n := range 256 {
		refused(t, "a byte more", append(slices.Clone(l), byte(n)))
	}
	refused(t, "nothing", nil)
	refused(t, "twice", slices.Concat(l, l))
	refused(t, "far too many", append(slices.Clone(l), make([]byte, 1<<20)...))
}

// P12.3: the longer form of a number is none, wherever it stands; nor is a number or a length beyond all.
func TestLongForms(t *testing.T) {
	l := bytesOf(ample())
	turned := 0
	for at := range l {
		if l[at] >= 0x80 || at > 0 && l[at-1] >= 0x80 {
			continue
		}
		// Within a name or a U8 this makes other bytes of it, so it is refused too: ample has no spare byte.
		refused(t, "a longer form", slices.Concat(l[:at], []byte{l[at] | 0x80, 0}, l[at+1:]))
		refused(t, "beyond all", slices.Concat(l[:at], binary.AppendUvarint(nil, math.MaxUint64), l[at+1:]))
		turned++
	}
	if turned < 50 {
		t.Errorf("only %d places", turned)
	}
	for _, n := range []uint64{9, 17, 65, 1 << 20, 1 << 31, 1 << 62, math.MaxUint64} {
		refused(t, "too many accounts", binary.AppendUvarint([]byte{0}, n))
		refused(t, "too many entries", binary.AppendUvarint([]byte{0, 0}, n))
		refused(t, "too many shards", binary.AppendUvarint([]byte{0, 0, 0}, n))
		refused(t, "too many slots", binary.AppendUvarint([]byte{0, 0, 0, 1, 1, 0}, n))
		refused(t, "a name too long", append(binary.AppendUvarint([]byte{0, 1}, n), make([]byte, 100)...))
	}
}

// again: bytes are refused, or the book that they tell is written as just them.
func again(t *testing.T, l []byte) bool {
	t.Helper()
	b, bad := shard.Decode(l)
	if bad != api.OK {
		refused(t, "drawn", l)
		return false
	}
	if why := fault(b); why != "" || !bytes.Equal(shard.Encode(b), l) || !bytes.Equal(bytesOf(b), l) {
		t.Fatalf("P12.3: %x is read as %s (%s)", l, told(b), why)
	}
	return true
}

// P12.3: every byte of a book changed to every other one: the book that is read is the one of just these bytes.
func TestEveryByte(t *testing.T) {
	l := shard.Encode(ample())
	read := 0
	for at := range l {
		was := l[at]
		for n := range 256 {
			l[at] = byte(n)
			if again(t, l) && byte(n) != was {
				read++
			}
		}
		l[at] = was
	}
	if read < 300 {
		t.Errorf("only %d were books", read)
	}
}

// P12.3, R1: drawn bytes, near a book's and far from it.
func TestDrawnBytes(t *testing.T) {
	r := rand.New(rand.NewSource(123))
	read := 0
	for range 30000 {
		l := bytesOf(ample())
		for range r.Intn(4) {
			l[r.Intn(len(l))] = []byte{0, 1, 2, 0x7f, 0x80, 0xff, byte(r.Intn(256))}[r.Intn(7)]
		}
		if r.Intn(8) == 0 {
			l = l[:r.Intn(len(l))]
		}
		if r.Intn(8) == 0 {
			at := r.Intn(len(l) + 1)
			l = slices.Concat(l[:at], []byte{byte(r.Intn(3))}, l[at:])
		}
		if again(t, l) {
			read++
		}
		l = make([]byte, r.Intn(40))
		for i := range l {
			l[i] = []byte{0, 1, byte(r.Intn(8)), byte(r.Intn(256))}[r.Intn(4)]
		}
		again(t, l)
	}
	if read < 5000 {
		t.Errorf("only %d were books", read)
	}
}

// P12.3: the greatest book has at most MaxValue bytes, and is read again.
func TestGreatest(t *testing.T) {
	long := func(home, count int) []string {
		var out []string
		for i := 0; len(out) < count; i++ {
			if n := fmt.Sprintf("%04d%s", i, strings.Repeat("x", api.MaxName-4)); text.Home(n, api.MaxShards) == home {
				out = append(out, n)
			}
		}
		return out
	}
	b := api.Book{Shard: 7}
	for _, n := range long(7, api.MaxAccounts) {
		b.Accounts = append(b.Accounts, api.Account{Name: n, Balance: api.MaxSupply / api.MaxAccounts})
	}
	for i, n := range long(6, api.MaxQueue) {
		b.Queue = append(b.Queue, entry(6, uint64(api.MaxNumber-api.MaxQueue+i), n, api.MaxSupply))
	}
	b.Next, b.Marks = slices.Repeat([]uint64{api.MaxNumber}, 8), slices.Repeat([]uint64{api.MaxNumber}, 8)
	b.Next[7], b.Marks[7] = 1, 0
	b.Slots = slices.Repeat([]api.Slot{{Number: api.MaxNumber, Peer: 6, Entry: api.MaxNumber - 1}}, api.MaxClients)
	may(t, "the greatest", b, true)
	if n := len(shard.Encode(b)); n > api.MaxValue || n < 5000 {
		t.Errorf("P12.3: %d bytes", n)
	}
}
