package code_test

import (
	"bytes"
	"encoding/hex"
	"fmt"
	"math/rand"
	"strings"
	"testing"

	"tally/api"
	"tally/code"
)

// unhex reads bytes as the chapter's tables write them.
func unhex(t *testing.T, s string) []byte {
	t.Helper()
	b, err := hex.DecodeString(strings.ReplaceAll(s, " ", ""))
	if err != nil {
		t.Fatal(err)
	}
	return b
}

// spoil writes over bytes and over the spare room behind their end: nobody else may see it.
func spoil(b []byte) {
	b = b[:cap(b)]
	for i := range b {
		b[i] = 'x'
	}
}

// thing is one item of a row: its kind (of those below), its number or its text.
type thing struct {
	kind   int
	number uint64
	text   []byte
}

const (
	u8 = iota
	u32
	u64
	vari
	text
	raw
	kinds
)

func (x thing) String() string {
	return fmt.Sprintf("kind %d (%d, %x)", x.kind, x.number, x.text)
}

func (x thing) write(w *code.Writer) {
	switch x.kind {
	case u8:
		w.U8(uint8(x.number))
	case u32:
		w.U32(uint32(x.number))
	case u64:
		w.U64(x.number)
	case vari:
		w.Var(x.number)
	case text:
		w.Bytes(x.text)
	case raw:
		w.Raw(x.text)
	}
}

// read reads an item of x's kind, with bounds that just let x be.
func (x thing) read(r *code.Reader) thing {
	out := thing{kind: x.kind}
	switch x.kind {
	case u8:
		out.number = uint64(r.U8())
	case u32:
		out.number = uint64(r.U32())
	case u64:
		out.number = r.U64()
	case vari:
		out.number = r.Var(x.number)
	case text:
		out.text = r.Bytes(len(x.text))
	case raw:
		out.text = r.Raw(len(x.text))
	}
	return out
}

func (x thing) equal(y thing) bool {
	return x.kind == y.kind && x.number == y.number && bytes.Equal(x.text, y.text)
}

// drawThing draws an item, numbers of all sizes among them.
func drawThing(r *rand.Rand) thing {
	x := thing{kind: r.Intn(kinds)}
	switch x.kind {
	case text, raw:
		x.text = make([]byte, r.Intn(300))
		r.Read(x.text)
	case u8:
		x.number = uint64(r.Intn(1 << 8))
	case u32:
		x.number = uint64(r.Uint32())
	default:
		x.number = r.Uint64() >> r.Intn(64)
	}
	return x
}

// P1.6: what is written is read.
func TestWrittenIsRead(t *testing.T) {
	draw := rand.New(rand.NewSource(16))
	for range 3000 {
		var row []thing
		w := code.New()
		for range draw.Intn(20) {
			x := drawThing(draw)
			row = append(row, x)
			x.write(w)
		}
		r := code.Read(w.Out())
		for i, x := range row {
			if got := x.read(r); !got.equal(x) || r.Fault() != api.OK {
				t.Fatalf("P1.6: item %d: %v, want %v; fault %d", i, got, x, r.Fault())
			}
		}
		if r.End() != api.OK || r.At() != w.Len() || r.Left() != 0 {
			t.Fatalf("P1.6: end %d at %d of %d", r.End(), r.At(), w.Len())
		}
	}
}

// drawBytes draws bytes among which those that matter for a Var (0, 1, 0x80, 0xff) are many.
func drawBytes(draw *rand.Rand, n int) []byte {
	b := make([]byte, n)
	for i := range b {
		b[i] = []byte{0, 1, 2, 0x7f, 0x80, 0x81, 0xff, byte(draw.Intn(256))}[draw.Intn(8)]
	}
	return b
}

// P1.6: there is one way to write it: what anybody's bytes were read as, written again, is those bytes.
func TestOneWay(t *testing.T) {
	draw := rand.New(rand.NewSource(61))
	whole := 0
	for range 20000 {
		b := drawBytes(draw, draw.Intn(24))
		r, w := code.Read(b), code.New()
		for r.Left() > 0 && r.Fault() == api.OK {
			x := thing{kind: draw.Intn(kinds), number: 1<<64 - 1, text: make([]byte, draw.Intn(4))}
			at := r.At()
			got := x.read(r)
			if r.Fault() != api.OK {
				break
			}
			got.write(w)
			if !bytes.Equal(w.Out(), b[:r.At()]) {
				t.Fatalf("P1.6: %v of %x at %d: written again: %x", got, b, at, w.Out())
			}
		}
		if r.End() == api.OK {
			whole++
		}
	}
	if whole < 1000 {
		t.Fatalf("only %d rows came to their end", whole)
	}
}
