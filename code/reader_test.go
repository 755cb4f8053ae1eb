package code_test

import (
	"bytes"
	"encoding/binary"
	"math"
	"math/rand"
	"testing"

	"tally/api"
	"tally/code"
)

// readCase is a read of bytes: what it answers and where the Reader stands then.
type readCase struct {
	name string
	in   string
	read func(r *code.Reader) (uint64, []byte)
	n    uint64
	b    string
	bad  api.Errno
	at   int
}

func readU8(r *code.Reader) (uint64, []byte)  { return uint64(r.U8()), nil }
func readU32(r *code.Reader) (uint64, []byte) { return uint64(r.U32()), nil }
func readU64(r *code.Reader) (uint64, []byte) { return r.U64(), nil }

func readVar(most uint64) func(r *code.Reader) (uint64, []byte) {
	return func(r *code.Reader) (uint64, []byte) { return r.Var(most), nil }
}

func readBytes(most int) func(r *code.Reader) (uint64, []byte) {
	return func(r *code.Reader) (uint64, []byte) { return 0, r.Bytes(most) }
}

func readRaw(n int) func(r *code.Reader) (uint64, []byte) {
	return func(r *code.Reader) (uint64, []byte) { return 0, r.Raw(n) }
}

const full = math.MaxUint64

// readCases: the chapter's table of what is read, and the edges that P1.4 names.
var readCases = []readCase{
	{"U8 of 07", "07", readU8, 7, "", api.OK, 1},
	{"U8 of ff 00", "ff 00", readU8, 255, "", api.OK, 1},
	{"U8 of nothing", "", readU8, 0, "", api.ErrCodeShort, 0},
	{"U32 of four", "01 02 03 04 05", readU32, 0x01020304, "", api.OK, 4},
	{"U32 of three", "00 00 00", readU32, 0, "", api.ErrCodeShort, 0},
	{"U32 of nothing", "", readU32, 0, "", api.ErrCodeShort, 0},
	{"U64 of eight", "01 02 03 04 05 06 07 08", readU64, 0x0102030405060708, "", api.OK, 8},
	{"U64 of eight ff", "ff ff ff ff ff ff ff ff", readU64, full, "", api.OK, 8},
	{"U64 of seven", "01 02 03 04 05 06 07", readU64, 0, "", api.ErrCodeShort, 0},
	{"Var(1000) of ac 02", "ac 02", readVar(1000), 300, "", api.OK, 2},
	{"Var(300) of ac 02", "ac 02 ff", readVar(300), 300, "", api.OK, 2},
	{"Var(299) of ac 02", "ac 02", readVar(299), 0, "", api.ErrCodeMax, 0},
	{"Var(0) of 00", "00", readVar(0), 0, "", api.OK, 1},
	{"Var(0) of 01", "01", readVar(0), 0, "", api.ErrCodeMax, 0},
	{"Var(9) of 80 00", "80 00", readVar(9), 0, "", api.ErrCodeForm, 0},
	{"Var of 80 80 00", "80 80 00", readVar(full), 0, "", api.ErrCodeForm, 0},
	{"Var(9) of 80", "80", readVar(9), 0, "", api.ErrCodeShort, 0},
	{"Var(9) of nothing", "", readVar(9), 0, "", api.ErrCodeShort, 0},
	{"the form ahead of the bound", "ff 00", readVar(9), 0, "", api.ErrCodeForm, 0},
	{"the end ahead of the bound", "ff ff", readVar(9), 0, "", api.ErrCodeShort, 0},
	{"the greatest Var", "ff ff ff ff ff ff ff ff ff 01", readVar(full), full, "", api.OK, 10},
	{"the greatest Var, bounded", "ff ff ff ff ff ff ff ff ff 01", readVar(full - 1), 0, "", api.ErrCodeMax, 0},
	{"1<<63", "80 80 80 80 80 80 80 80 80 01 00", readVar(full), 1 << 63, "", api.OK, 10},
	{"nine ff", "ff ff ff ff ff ff ff ff ff", readVar(full), 0, "", api.ErrCodeShort, 0},
	{"nine ff and 00", "ff ff ff ff ff ff ff ff ff 00", readVar(full), 0, "", api.ErrCodeForm, 0},
	{"nine ff and 02", "ff ff ff ff ff ff ff ff ff 02", readVar(full), 0, "", api.ErrCodeForm, 0},
	{"nine ff and 80", "ff ff ff ff ff ff ff ff ff 80", readVar(full), 0, "", api.ErrCodeForm, 0},
	{"nine ff and 81 00", "ff ff ff ff ff ff ff ff ff 81 00", readVar(full), 0, "", api.ErrCodeForm, 0},
	{"ten ff", "ff ff ff ff ff ff ff ff ff ff", readVar(full), 0, "", api.ErrCodeForm, 0},
	{"Bytes(2) of ab", "02 61 62 63", readBytes(2), 0, "ab", api.OK, 3},
	{"Bytes of none", "00 61", readBytes(9), 0, "", api.OK, 1},
	{"Bytes(1) of 02 61 62", "02 61 62", readBytes(1), 0, "", api.ErrCodeMax, 0},
	{"Bytes(9) of 03 61 62", "03 61 62", readBytes(9), 0, "", api.ErrCodeShort, 0},
	{"the bound ahead of the end", "03 61 62", readBytes(2), 0, "", api.ErrCodeMax, 0},
	{"Bytes(-1) of 00", "00", readBytes(-1), 0, "", api.OK, 1},
	{"Bytes(least) of 00", "00", readBytes(math.MinInt), 0, "", api.OK, 1},
	{"Bytes(-1) of 01 61", "01 61", readBytes(-1), 0, "", api.ErrCodeMax, 0},
	{"Bytes of nothing", "", readBytes(9), 0, "", api.ErrCodeShort, 0},
	{"Bytes of a length without its end", "80", readBytes(9), 0, "", api.ErrCodeShort, 0},
	{"Bytes of a long form", "81 00 61", readBytes(9), 0, "", api.ErrCodeForm, 0},
	{"Bytes of a huge length", "ff ff ff ff ff ff ff ff 7f", readBytes(math.MaxInt64), 0, "", api.ErrCodeShort, 0},
	{"Bytes of the greatest length", "ff ff ff ff ff ff ff ff ff 01", readBytes(math.MaxInt64), 0, "", api.ErrCodeMax, 0},
	{"Raw(2)", "61 62 63", readRaw(2), 0, "ab", api.OK, 2},
	{"Raw of all", "61 62 63", readRaw(3), 0, "abc", api.OK, 3},
	{"Raw(4) of three", "61 62 63", readRaw(4), 0, "", api.ErrCodeShort, 0},
	{"Raw(-1)", "61", readRaw(-1), 0, "", api.ErrCodeArg, 0},
	{"Raw(-1) of nothing", "", readRaw(-1), 0, "", api.ErrCodeArg, 0},
	{"Raw(least)", "61", readRaw(math.MinInt), 0, "", api.ErrCodeArg, 0},
	{"Raw(0) of nothing", "", readRaw(0), 0, "", api.OK, 0},
	{"Raw(1) of nothing", "", readRaw(1), 0, "", api.ErrCodeShort, 0},
	{"Raw(greatest)", "61", readRaw(math.MaxInt), 0, "", api.ErrCodeShort, 0},
}

// P1.3, P1.4, P1.5: each read at the front, and behind other bytes.
func TestReads(t *testing.T) {
	for _, c := range readCases {
		for _, ahead := range []int{0, 3} {
			in := append(bytes.Repeat([]byte{0xff}, ahead), unhex(t, c.in)...)
			r := code.Read(in)
			if got := r.Raw(ahead); !bytes.Equal(got, in[:ahead]) {
				t.Fatalf("Raw(%d): %x", ahead, got)
			}
			n, b := c.read(r)
			if n != c.n || string(b) != c.b || r.Fault() != c.bad {
				t.Errorf("P1.4: %s: %d, %q, fault %d; want %d, %q, %d", c.name, n, b, r.Fault(), c.n, c.b, c.bad)
			}
			if r.At() != ahead+c.at || r.Left() != len(in)-ahead-c.at {
				t.Errorf("P1.3: %s: at %d, left %d", c.name, r.At(), r.Left())
			}
			end := c.bad
			if end == api.OK && r.Left() > 0 {
				end = api.ErrCodeLeft
			}
			if r.End() != end || r.Fault() != c.bad {
				t.Errorf("P1.5: %s: End %d, want %d", c.name, r.End(), end)
			}
		}
	}
}

// P1.3: a fault is for good: what would be another fault, or could be read, changes nothing.
func TestFaultStays(t *testing.T) {
	for _, c := range readCases {
		if c.bad == api.OK {
			continue
		}
		in := unhex(t, c.in)
		r := code.Read(in)
		c.read(r)
		for _, next := range readCases {
			n, b := next.read(r)
			if n != 0 || len(b) != 0 {
				t.Errorf("P1.3: %s behind %s: %d, %x", next.name, c.name, n, b)
			}
			if r.Fault() != c.bad || r.End() != c.bad || r.At() != 0 || r.Left() != len(in) {
				t.Errorf("P1.3: %s behind %s: fault %d at %d", next.name, c.name, r.Fault(), r.At())
			}
		}
	}
}

// P1.2: a new Reader is at place 0, without a fault; it keeps its own copy of the bytes.
func TestRead(t *testing.T) {
	for _, in := range [][]byte{nil, {}} {
		if r := code.Read(in); r == nil || r.At() != 0 || r.Left() != 0 || r.Fault() != api.OK || r.End() != api.OK {
			t.Error("P1.2: Read of nothing")
		}
	}
	in := []byte("abc")
	r := code.Read(in)
	if r.At() != 0 || r.Left() != 3 || r.Fault() != api.OK {
		t.Errorf("P1.2: at %d, left %d, fault %d", r.At(), r.Left(), r.Fault())
	}
	in[0], in[2] = 'x', 'y'
	if b := r.Raw(3); string(b) != "abc" {
		t.Errorf("P1.2: the Reader looks at what it was given: %q", b)
	}
}

// P1.5: bytes that are left are no fault: the Reader may go on.
func TestEndGoesOn(t *testing.T) {
	r := code.Read([]byte{0, 5})
	for _, want := range []uint8{0, 5} {
		if r.End() != api.ErrCodeLeft || r.Fault() != api.OK {
			t.Errorf("P1.5: End %d, Fault %d", r.End(), r.Fault())
		}
		if n := r.U8(); n != want {
			t.Errorf("P1.5: behind End: %d", n)
		}
	}
	if r.End() != api.OK || r.Left() != 0 || r.At() != 2 {
		t.Errorf("P1.5: End %d, left %d, at %d", r.End(), r.Left(), r.At())
	}
}

// P1.7: Bytes and Raw answer new memory, and the bytes that were handed in stay as they are, their spare room too.
func TestReadsAreNew(t *testing.T) {
	whole := []byte("\x02abcd\x02efspare")
	in := whole[:8]
	r, other := code.Read(in), code.Read(in)
	for i, read := range []func(r *code.Reader) []byte{
		func(r *code.Reader) []byte { return r.Bytes(9) },
		func(r *code.Reader) []byte { return r.Raw(2) },
		func(r *code.Reader) []byte { return r.Bytes(2) },
	} {
		b, c := read(r), read(other)
		want := []string{"ab", "cd", "ef"}[i]
		if string(b) != want {
			t.Errorf("P1.7: %q, want %q: spoilt by what was done to another answer", b, want)
		}
		spoil(b)
		if string(c) != want {
			t.Errorf("P1.7: two Readers share memory: %q, want %q", c, want)
		}
	}
	if r.End() != api.OK {
		t.Errorf("P1.7: End %d", r.End())
	}
	if string(whole) != "\x02abcd\x02efspare" {
		t.Errorf("P1.7: what was handed in has changed: %q", whole)
	}
}

// wantVar tells by the library's reading what Var answers.
func wantVar(b []byte, most uint64) (uint64, int, api.Errno) {
	if len(b) >= binary.MaxVarintLen64 {
		long := true
		for _, c := range b[:binary.MaxVarintLen64-1] {
			long = long && c >= 0x80
		}
		if long && b[binary.MaxVarintLen64-1] > 1 {
			return 0, 0, api.ErrCodeForm
		}
	}
	n, size := binary.Uvarint(b)
	switch {
	case size == 0:
		return 0, 0, api.ErrCodeShort
	case len(binary.AppendUvarint(nil, n)) != size:
		return 0, 0, api.ErrCodeForm
	case n > most:
		return 0, 0, api.ErrCodeMax
	}
	return n, size, api.OK
}

func checkVar(t *testing.T, b []byte, most uint64) {
	t.Helper()
	r := code.Read(b)
	got := r.Var(most)
	if n, size, bad := wantVar(b, most); got != n || r.At() != size || r.Fault() != bad {
		t.Fatalf("P1.4: Var(%d) of %x: %d at %d, fault %d; want %d at %d, fault %d", most, b, got, r.At(), r.Fault(), n, size, bad)
	}
}

// P1.4: Var of all bytes of length up to two, and of many longer ones.
func TestVarOfAll(t *testing.T) {
	for _, most := range []uint64{0, 1, 127, 128, 300, full} {
		for a := range 256 {
			checkVar(t, []byte{byte(a)}, most)
			for b := range 256 {
				checkVar(t, []byte{byte(a), byte(b)}, most)
			}
		}
	}
	draw := rand.New(rand.NewSource(14))
	for range 50000 {
		b := drawBytes(draw, draw.Intn(13))
		for i := range draw.Intn(len(b) + 1) {
			b[i] |= 0x80
		}
		checkVar(t, b, uint64(full)>>draw.Intn(64))
	}
}
