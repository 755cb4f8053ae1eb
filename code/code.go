// Package code: bytes written and read, and a check sum: see ../shared/doc/01-code.md.
package code

// kind says what an item is.
type kind int

const (
	kindU8 kind = iota
	kindU32
	kindU64
	kindVar
	kindBytes
	kindRaw
)

// widths tells how many bytes the kinds of fixed size take.
var widths = [...]int{kindU8: 1, kindU32: 4, kindU64: 8}

const (
	digitBits = 7    // bits of a number in one byte of a Var
	digitMask = 0x7f // those bits
	digitMore = 0x80 // set in every byte of a Var but its last
	mostVar   = 10   // bytes of the longest Var
	lastOfAll = 1    // what the tenth byte of a Var may be at most: the 64th bit
)
