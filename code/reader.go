package code

import "tally/api"

// Reader takes bytes apart, up to the first fault.
type Reader struct {
	held  []byte
	at    int
	fault api.Errno
}

// Read begins at the first of the bytes.
func Read(b []byte) *Reader { return &Reader{held: copied(b)} }

func (r *Reader) U8() uint8 { return uint8(r.next(kindU8, 0).number) }

func (r *Reader) U32() uint32 { return uint32(r.next(kindU32, 0).number) }

func (r *Reader) U64() uint64 { return r.next(kindU64, 0).number }

// Var reads a number of at most so much.
func (r *Reader) Var(most uint64) uint64 { return r.next(kindVar, most).number }

// Bytes reads a length of at most so much and the bytes, Raw just n bytes.
func (r *Reader) Bytes(most int) []byte { return r.next(kindBytes, uint64(max(most, 0))).text }

func (r *Reader) Raw(n int) []byte {
	if n < 0 {
		r.fail(api.ErrCodeArg)
		return nil
	}
	return r.next(kindRaw, uint64(n)).text
}

// Left tells how many bytes are left, At where the next item begins.
func (r *Reader) Left() int { return len(r.held) - r.at }

func (r *Reader) At() int { return r.at }

// Fault tells the first fault, End too whether bytes are left.
func (r *Reader) Fault() api.Errno { return r.fault }

func (r *Reader) End() api.Errno {
	if r.fault == api.OK && r.Left() > 0 {
		return api.ErrCodeLeft
	}
	return r.fault
}

// fail keeps the first fault: later ones are none, since nothing is read behind it.
func (r *Reader) fail(bad api.Errno) {
	if r.fault == api.OK {
		r.fault = bad
	}
}

// next takes the item of that kind off the front; behind a fault, or with one, it answers an empty item and stays.
func (r *Reader) next(k kind, bound uint64) item {
	if r.fault != api.OK {
		return item{}
	}
	it, bad := look(k, r.held[r.at:], bound)
	if bad != api.OK {
		r.fail(bad)
		return item{}
	}
	r.at += it.size
	return it
}

// item is what stands at the front of bytes: its number or its text, and how many bytes it takes in all.
type item struct {
	number uint64
	text   []byte
	size   int
}

// look finds an item at the front of bytes; bound is the greatest number or length, or for Raw just the length.
func look(k kind, b []byte, bound uint64) (item, api.Errno) {
	switch k {
	case kindVar:
		return lookVar(b, bound)
	case kindBytes:
		return lookBytes(b, bound)
	case kindRaw:
		return lookRaw(b, bound)
	}
	return lookFixed(b, widths[k])
}

func lookFixed(b []byte, width int) (item, api.Errno) {
	if len(b) < width {
		return item{}, api.ErrCodeShort
	}
	it := item{size: width}
	for i := range width {
		it.number = it.number<<8 | uint64(b[i])
	}
	return it, api.OK
}

func lookVar(b []byte, most uint64) (item, api.Errno) {
	var n uint64
	for i := range mostVar {
		if i == len(b) {
			return item{}, api.ErrCodeShort
		}
		if i == mostVar-1 && b[i] > lastOfAll {
			return item{}, api.ErrCodeForm
		}
		n |= uint64(b[i]&digitMask) << (digitBits * i)
		if b[i]&digitMore != 0 {
			continue
		}
		if b[i] == 0 && i > 0 {
			return item{}, api.ErrCodeForm
		}
		if n > most {
			return item{}, api.ErrCodeMax
		}
		return item{number: n, size: i + 1}, api.OK
	}
	// Nothing comes here: a tenth byte that passes has no bit 0x80, so it is the last.
	return item{}, api.ErrCodeForm
}

func lookBytes(b []byte, most uint64) (item, api.Errno) {
	head, bad := lookVar(b, most)
	if bad != api.OK {
		return item{}, bad
	}
	it, bad := lookRaw(b[head.size:], head.number)
	if bad != api.OK {
		return item{}, bad
	}
	it.size += head.size
	return it, api.OK
}

func lookRaw(b []byte, n uint64) (item, api.Errno) {
	// A length is made an int only once it is known to be no more than what is there.
	if uint64(len(b)) < n {
		return item{}, api.ErrCodeShort
	}
	return item{text: copied(b[:n]), size: int(n)}, api.OK
}
