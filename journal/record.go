package journal

import (
	"bytes"

	"tally/api"
	"tally/code"
)

const (
	headMark = 0xa7
	tailMark = 0x5a
	headText = 9  // bytes of a head ahead of its sum
	around   = 18 // bytes of a record beside its body
)

// isTooMuch tells whether parts are too many for a transaction, or too long for a record even without what stands around them: of such no record is made.
func isTooMuch(parts [][]byte) bool {
	if len(parts) > api.MaxParts {
		return true
	}
	// What is left is counted down: a sum of lengths might leave its type.
	left := api.MaxRecord
	for _, p := range parts {
		if len(p) > left {
			return true
		}
		left -= len(p)
	}
	return false
}

// record tells a transaction as bytes.
func record(number uint64, parts [][]byte) []byte {
	body := bodyOf(number, parts)
	w := code.New()
	w.U8(headMark)
	w.U64(uint64(len(body)))
	w.U32(code.Sum(w.Out()))
	w.Raw(body)
	w.U32(code.Sum(body))
	w.U8(tailMark)
	return w.Out()
}

func bodyOf(number uint64, parts [][]byte) []byte {
	w := code.New()
	w.U64(number)
	w.U32(uint32(len(parts)))
	for _, p := range parts {
		w.Bytes(p)
	}
	return w.Out()
}

// readRecord reads a transaction, if a whole record stands where the reader is; if not, the reader is of no more use.
func readRecord(r *code.Reader) (uint64, [][]byte, bool) {
	size, whole := readHead(r)
	if !whole {
		return 0, nil, false
	}
	body := r.Raw(size)
	sum, mark := r.U32(), r.U8()
	if r.Fault() != api.OK || sum != code.Sum(body) || mark != tailMark {
		return 0, nil, false
	}
	return readBody(code.Read(body))
}

// readHead tells how many bytes the body has.
func readHead(r *code.Reader) (int, bool) {
	text := r.Raw(headText)
	sum := r.U32()
	if r.Fault() != api.OK || sum != code.Sum(text) {
		return 0, false
	}
	head := code.Read(text)
	mark, size := head.U8(), head.U64()
	if mark != headMark || size > api.MaxRecord-around {
		return 0, false
	}
	return int(size), true
}

func readBody(r *code.Reader) (uint64, [][]byte, bool) {
	number, count := r.U64(), r.U32()
	if number < 1 || number > api.MaxNumber || count > api.MaxParts {
		return 0, nil, false
	}
	parts := make([][]byte, count)
	for i := range parts {
		parts[i] = r.Bytes(api.MaxRecord)
	}
	if r.End() != api.OK {
		return 0, nil, false
	}
	return number, parts, true
}

func copied(parts [][]byte) [][]byte {
	out := make([][]byte, len(parts))
	for i, p := range parts {
		out[i] = bytes.Clone(p)
	}
	return out
}
