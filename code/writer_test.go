package code_test

import (
	"bytes"
	"encoding/binary"
	"testing"

	"tally/code"
)

// P1.1: New holds nothing.
func TestNew(t *testing.T) {
	w := code.New()
	if w == nil || w.Len() != 0 || len(w.Out()) != 0 {
		t.Fatal("P1.1: New")
	}
	code.New().U8(1)
	if w.Len() != 0 {
		t.Fatal("P1.1: two writers hold the same")
	}
}

// P1.1: the chapter's table of what is written.
func TestWriteExamples(t *testing.T) {
	for _, c := range []struct {
		name string
		f    func(w *code.Writer)
		want string
	}{
		{"U32(1), U8(255), U64(258)", func(w *code.Writer) { w.U32(1); w.U8(255); w.U64(258) }, "00 00 00 01 ff 00 00 00 00 00 00 01 02"},
		{"Var(0), Var(127), Var(128), Var(300)", func(w *code.Writer) { w.Var(0); w.Var(127); w.Var(128); w.Var(300) }, "00 7f 80 01 ac 02"},
		{"Var(1<<64 - 1)", func(w *code.Writer) { w.Var(1<<64 - 1) }, "ff ff ff ff ff ff ff ff ff 01"},
		{"Bytes(ab), Raw(cd), Bytes()", func(w *code.Writer) { w.Bytes([]byte("ab")); w.Raw([]byte("cd")); w.Bytes(nil) }, "02 61 62 63 64 00"},
		{"U8(0), U8(254)", func(w *code.Writer) { w.U8(0); w.U8(254) }, "00 fe"},
		{"U32(0x01020304), U32(1<<32 - 1)", func(w *code.Writer) { w.U32(0x01020304); w.U32(1<<32 - 1) }, "01 02 03 04 ff ff ff ff"},
		{"U64(0x0102030405060708)", func(w *code.Writer) { w.U64(0x0102030405060708) }, "01 02 03 04 05 06 07 08"},
		{"Raw(), Raw(nil), Bytes([]byte{})", func(w *code.Writer) { w.Raw([]byte{}); w.Raw(nil); w.Bytes([]byte{}) }, "00"},
	} {
		w := code.New()
		c.f(w)
		want := unhex(t, c.want)
		if !bytes.Equal(w.Out(), want) || w.Len() != len(want) {
			t.Errorf("P1.1: %s: %x (Len %d), want %x", c.name, w.Out(), w.Len(), want)
		}
	}
}

// P1.1: at each length of a Var its least and its greatest number; a length of Bytes is a Var too.
func TestWriteVarEdges(t *testing.T) {
	for bits := range 64 {
		for _, n := range []uint64{1<<bits - 1, 1 << bits, 1<<bits | 1<<(bits/2), ^uint64(0) >> bits} {
			w := code.New()
			w.Var(n)
			if want := binary.AppendUvarint(nil, n); !bytes.Equal(w.Out(), want) {
				t.Errorf("P1.1: Var(%d): %x, want %x", n, w.Out(), want)
			}
		}
	}
	for _, n := range []int{127, 128, 16383, 16384} {
		w := code.New()
		w.Bytes(make([]byte, n))
		if want := append(binary.AppendUvarint(nil, uint64(n)), make([]byte, n)...); !bytes.Equal(w.Out(), want) {
			t.Errorf("P1.1: Bytes of %d bytes: %d bytes", n, w.Len())
		}
	}
}

// P1.1, P1.7: Out answers new memory, and the Writer goes on holding what it holds.
func TestOutIsNew(t *testing.T) {
	w := code.New()
	w.Raw([]byte("abc"))
	first, second := w.Out(), w.Out()
	spoil(first)
	if string(second) != "abc" || string(w.Out()) != "abc" || w.Len() != 3 {
		t.Errorf("P1.7: Out shares memory: %q, %q", second, w.Out())
	}
	w.U8('d')
	third := w.Out()
	spoil(second)
	w.U8('e')
	if string(third) != "abcd" || string(w.Out()) != "abcde" || w.Len() != 5 {
		t.Errorf("P1.1: behind Out the Writer holds %q, then %q", third, w.Out())
	}
}

// P1.7: what is handed in to a Writer is neither changed nor kept, nor is its spare room.
func TestWriterKeepsNothing(t *testing.T) {
	in := []byte("abcdefgh")
	w := code.New()
	w.Raw(in[:2])
	w.Bytes(in[2:4])
	w.U64(1<<64 - 1)
	if string(in) != "abcdefgh" {
		t.Errorf("P1.7: the Writer changed what it was given: %q", in)
	}
	spoil(in)
	if want := []byte("ab\x02cd\xff\xff\xff\xff\xff\xff\xff\xff"); !bytes.Equal(w.Out(), want) {
		t.Errorf("P1.7: the Writer looks at what it was given: %q", w.Out())
	}
}
