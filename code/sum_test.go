package code_test

import (
	"bytes"
	"math/rand"
	"testing"

	"tally/code"
)

// P1.8: the chapter's table.
func TestSumExamples(t *testing.T) {
	for _, c := range []struct {
		b    []byte
		want uint32
	}{
		{nil, 0},
		{[]byte{}, 0},
		{[]byte("a"), 0xe8b7be43},
		{[]byte("123456789"), 0xcbf43926},
		{make([]byte, 4), 0x2144df1c},
		{make([]byte, 32), 0x190a55ad},
	} {
		if n := code.Sum(c.b); n != c.want {
			t.Errorf("P1.8: Sum(%x): %08x, want %08x", c.b, n, c.want)
		}
	}
}

// bitSum goes bit by bit, as P1.8 says it.
func bitSum(b []byte) uint32 {
	register := uint32(0xffffffff)
	for _, c := range b {
		for place := range 8 {
			comes, falls := uint32(c)>>place&1, register&1
			register >>= 1
			if comes != falls {
				register ^= 0xedb88320
			}
		}
	}
	return ^register
}

// P1.8: every byte, every two bytes, and drawn texts.
func TestSumByBits(t *testing.T) {
	check := func(b []byte) {
		if got, want := code.Sum(b), bitSum(b); got != want {
			t.Fatalf("P1.8: Sum(%x): %08x, want %08x", b, got, want)
		}
	}
	for a := range 256 {
		check([]byte{byte(a)})
		for b := range 256 {
			check([]byte{byte(a), byte(b)})
		}
	}
	draw := rand.New(rand.NewSource(18))
	for range 500 {
		b := make([]byte, draw.Intn(500))
		draw.Read(b)
		check(b)
	}
}

// P1.7, R2: Sum changes nothing.
func TestSumChangesNothing(t *testing.T) {
	b := []byte("123456789")
	code.Sum(b[:3])
	if string(b) != "123456789" {
		t.Errorf("Sum changed %q", b)
	}
}

func flip(b []byte, bit int) { b[bit/8] ^= 1 << (bit % 8) }

// P1.9: all single bits and all pairs of bits of a short text.
func TestSumPairs(t *testing.T) {
	b := []byte("all pairs of bits of this text")
	was := code.Sum(b)
	for i := range 8 * len(b) {
		flip(b, i)
		if code.Sum(b) == was {
			t.Fatalf("P1.9: bit %d: the same sum", i)
		}
		for j := range i {
			flip(b, j)
			if code.Sum(b) == was {
				t.Fatalf("P1.9: bits %d and %d: the same sum", i, j)
			}
			flip(b, j)
		}
		flip(b, i)
	}
}

// flipRow turns over bits that lie within 32 in a row from a place on, the first of them among them.
func flipRow(b []byte, at int, pattern uint32) {
	for k := range 32 {
		if at+k < 8*len(b) && (pattern|1)>>k&1 == 1 {
			flip(b, at+k)
		}
	}
}

// P1.9: one bit, two bits, bits within 32 in a row: of drawn texts, of all lengths up to 1048576 bytes.
func TestSumTells(t *testing.T) {
	draw := rand.New(rand.NewSource(19))
	for _, c := range []struct{ length, times int }{{1, 200}, {2, 200}, {4, 400}, {5, 400}, {300, 400}, {17000, 40}, {1 << 20, 15}} {
		b := make([]byte, c.length)
		draw.Read(b)
		was := code.Sum(b)
		for range c.times {
			i, j, at := draw.Intn(8*c.length), draw.Intn(8*c.length), draw.Intn(8*c.length)
			one, two, row := bytes.Clone(b), bytes.Clone(b), bytes.Clone(b)
			flip(one, i)
			flip(two, i)
			if i != j {
				flip(two, j)
			}
			flipRow(row, at, draw.Uint32())
			if code.Sum(one) == was || code.Sum(two) == was || code.Sum(row) == was {
				t.Fatalf("P1.9: %d bytes; bit %d, bits %d and %d, a row at %d: the same sum", c.length, i, i, j, at)
			}
		}
	}
}

// P1.9: bits at both ends of the longest text and far from each other: no two of them give one sum.
func TestSumFarBits(t *testing.T) {
	b := make([]byte, 1<<20)
	was := code.Sum(b)
	seen := map[uint32]int{was: -1}
	for _, bit := range []int{0, 1, 7, 8, 31, 32, 1 << 22, 8*len(b) - 33, 8*len(b) - 32, 8*len(b) - 2, 8*len(b) - 1} {
		flip(b, bit)
		sum := code.Sum(b)
		flip(b, bit)
		if other, ok := seen[sum]; ok {
			t.Errorf("P1.9: bits %d and %d: the same sum", bit, other)
		}
		seen[sum] = bit
	}
}

// P1.9: three texts of one length, and the one that is their exclusive or.
func TestSumOfThree(t *testing.T) {
	draw := rand.New(rand.NewSource(93))
	for range 500 {
		n := draw.Intn(200)
		a, b, c, d := make([]byte, n), make([]byte, n), make([]byte, n), make([]byte, n)
		draw.Read(a)
		draw.Read(b)
		draw.Read(c)
		for i := range d {
			d[i] = a[i] ^ b[i] ^ c[i]
		}
		if code.Sum(d) != code.Sum(a)^code.Sum(b)^code.Sum(c) {
			t.Fatalf("P1.9: %x, %x, %x: the fourth one's sum is another", a, b, c)
		}
	}
}
