package code

// Writer gathers bytes.
type Writer struct {
	held []byte
}

// New makes an empty writer.
func New() *Writer { return &Writer{} }

// U8, U32 and U64 write a number in one, four, eight bytes.
func (w *Writer) U8(n uint8) { w.fixed(kindU8, uint64(n)) }

func (w *Writer) U32(n uint32) { w.fixed(kindU32, uint64(n)) }

func (w *Writer) U64(n uint64) { w.fixed(kindU64, n) }

func (w *Writer) fixed(k kind, n uint64) {
	width := widths[k]
	for i := range width {
		w.held = append(w.held, byte(n>>(8*(width-1-i))))
	}
}

// Var writes a number in its shortest form.
func (w *Writer) Var(n uint64) {
	for n > digitMask {
		w.held = append(w.held, byte(n&digitMask)|digitMore)
		n >>= digitBits
	}
	w.held = append(w.held, byte(n))
}

// Bytes writes the length and the bytes, Raw the bytes alone.
func (w *Writer) Bytes(b []byte) {
	w.Var(uint64(len(b)))
	w.Raw(b)
}

func (w *Writer) Raw(b []byte) { w.held = append(w.held, b...) }

// Len tells how many bytes there are, Out the bytes.
func (w *Writer) Len() int { return len(w.held) }

func (w *Writer) Out() []byte { return copied(w.held) }

// copied answers the bytes in memory of their own, without spare room that somebody else could write to.
func copied(b []byte) []byte {
	out := make([]byte, len(b))
	copy(out, b)
	return out
}
