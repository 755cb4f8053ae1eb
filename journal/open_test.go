package journal_test

import (
	"bytes"
	"math"
	"slices"
	"strings"
	"testing"

	"tally/api"
	"tally/journal"
)

// P5.1: every byte in a name, names of every length: with .new behind it, it must be a file name too. The power does not matter.
func TestNames(t *testing.T) {
	var names []string
	for c := range 256 {
		names = append(names, string([]byte{byte(c)}), string([]byte{'a', byte(c)}), string([]byte{byte(c), 'a'}))
	}
	for n := range 70 {
		names = append(names, strings.Repeat("a", n), strings.Repeat(".", n))
	}
	names = append(names, "j.new", ".new", "a.new.new", "ä", "a\x00", strings.Repeat("a", 1<<20))
	on, off := load(t, nil, 10), load(t, nil, 10)
	off.Plan(api.Plan{Off: 1})
	errno(t, "the power goes off", off.SyncNames(), api.ErrDiskOff)
	for _, name := range names {
		good := len(name) >= 1 && len(name) <= 60 && strings.Trim(name, "abcdefghijklmnopqrstuvwxyz0123456789.-_") == ""
		want, dark := api.ErrJournalName, api.ErrJournalName
		if good {
			want, dark = api.OK, api.ErrDiskOff
		}
		if j, e := journal.Open(on, name); e != want || (j != nil) != good {
			t.Errorf("Open(%.80q) = %v, %d, want %d", name, j, e, want)
		}
		if j, e := journal.Open(off, name); e != dark || j != nil {
			t.Errorf("Open(%.80q) with the power off = %v, %d, want %d", name, j, e, dark)
		}
	}
	if on.Strokes() != 0 || files(t, on) != "" {
		t.Errorf("%d strokes, files %q", on.Strokes(), files(t, on))
	}
}

// P5.1, R3: a file that isn't there is one of no bytes; the second file is not read; nothing is changed, and no stroke counted.
func TestOpenChangesNothing(t *testing.T) {
	junk := []byte("junk")
	for _, img := range [][]api.FileBytes{
		nil, image("j", nil), image("j.new", records(1, "x")), {{Name: "i", Data: junk}, {Name: "j"}, {Name: "j.new", Data: junk}},
	} {
		d := load(t, img, wide)
		d.Plan(api.Plan{Off: 1, FullFrom: 1, FullTo: 9})
		for range 3 {
			is(t, "of nothing", open(t, d, "j"), "len 0 next 1")
		}
		if d.Strokes() != 0 || files(t, d) != listed(img) || listed(d.Crash(nil)) != listed(img) {
			t.Errorf("Open has changed %q to %q", listed(img), files(t, d))
		}
	}
	b := append(records(7, "a", "b"), junk...)
	d, j := over(t, b)
	is(t, "two and junk", j, "[a] [b] len 2 next 9 torn")
	is(t, "opened again", open(t, d, "j"), "[a] [b] len 2 next 9 torn")
	if d.Strokes() != 0 || files(t, d) != "j="+string(b) {
		t.Errorf("Open has changed the file")
	}
}

// P5.1: what is seen is read, safe or not.
func TestOpenReadsWhatIsSeen(t *testing.T) {
	d := load(t, nil, wide)
	ok(t, d.Append("x", records(1, "a", "b")), d.Rename("x", "j"))
	is(t, "not safe", open(t, d, "j"), "[a] [b] len 2 next 3")
	ok(t, d.Cut("j", 40))
	is(t, "cut", open(t, d, "j"), "[a] len 1 next 2 torn")
}

// P5.1: numbers of the records: the first may be any from 1 to MaxNumber, each other is one more than the one ahead.
func TestNumbers(t *testing.T) {
	const top = api.MaxNumber
	row := func(numbers ...uint64) []byte {
		var b []byte
		for _, n := range numbers {
			b = append(b, record(n, parts("x"))...)
		}
		return b
	}
	for _, c := range []struct {
		b    []byte
		want string
	}{
		{row(1), "[x] len 1 next 2"},
		{row(1, 2, 3), "[x] [x] [x] len 3 next 4"},
		{row(5, 6, 8), "[x] [x] len 2 next 7 torn"},
		{row(5, 6, 8, 7), "[x] [x] len 2 next 7 torn"},
		{row(5, 5), "[x] len 1 next 6 torn"},
		{row(5, 4), "[x] len 1 next 6 torn"},
		{row(5, 1), "[x] len 1 next 6 torn"},
		{row(2, 1), "[x] len 1 next 3 torn"},
		{row(0), "len 0 next 1 torn"},
		{row(0, 1), "len 0 next 1 torn"},
		{row(top), "[x] len 1 next 1099511627777"},
		{row(top-1, top), "[x] [x] len 2 next 1099511627777"},
		{row(top-1, top, top+1), "[x] [x] len 2 next 1099511627777 torn"},
		{row(top, 1), "[x] len 1 next 1099511627777 torn"},
		{row(top + 1), "len 0 next 1 torn"},
		{row(math.MaxUint64), "len 0 next 1 torn"},
		{row(math.MaxUint64, 0), "len 0 next 1 torn"},
		{row(1<<63, 1), "len 0 next 1 torn"},
	} {
		_, j := over(t, c.b)
		is(t, "numbers", j, c.want)
	}
}

// P5.1: a transaction of any number of parts, of any lengths, is told as it was written.
func TestWholeRecords(t *testing.T) {
	var all [][][]byte
	for _, n := range []int{0, 1, 2, 63, 64} {
		l := make([][]byte, n)
		for i := range l {
			l[i] = bytes.Repeat([]byte{byte(i)}, []int{0, 1, 127, 128, 300}[i%5])
		}
		all = append(all, l)
	}
	const head = 18 + 12 + 3 // beside one part whose length takes three bytes
	all = append(all, sized(16383), sized(16384), sized(api.MaxRecord-head), nil)
	var b []byte
	for i, l := range all {
		b = append(b, record(uint64(i)+3, l)...)
	}
	_, j := over(t, b)
	if !same(j.All(), all) || j.Len() != len(all) || j.Next() != uint64(len(all))+3 || j.Torn() {
		t.Errorf("%d of %d, next %d, torn %v", j.Len(), len(all), j.Next(), j.Torn())
	}
}

// P5.1: what looks like a record, with right sums, but is that of no transaction.
func TestNoRecords(t *testing.T) {
	good := body(2, parts("x", "yz"))
	n := uint64(len(good))
	for what, b := range map[string][]byte{
		"head mark":           sealed(0xa6, n, good, 0x5a),
		"tail mark":           sealed(0xa7, n, good, 0x5b),
		"no tail mark":        sealed(0xa7, n, good, 0x5a)[:17+n],
		"length too small":    sealed(0xa7, n-1, good, 0x5a),
		"length too great":    sealed(0xa7, n+1, good, 0x5a),
		"length 0":            sealed(0xa7, 0, good, 0x5a),
		"length 2^31":         sealed(0xa7, 1<<31, good, 0x5a),
		"length 2^32 more":    sealed(0xa7, 1<<32+n, good, 0x5a),
		"length 2^63":         sealed(0xa7, 1<<63, good, 0x5a),
		"greatest length":     sealed(0xa7, math.MaxUint64, good, 0x5a),
		"no body":             around(nil),
		"half a body":         around(good[:8]),
		"no count":            around(good[:11]),
		"a byte too many":     around(append(slices.Clone(good), 0)),
		"a byte too few":      around(good[:n-1]),
		"a part too few":      around(append(body(2, nil)[:11], 2, 1, 'x')),
		"a part too many":     around(append(body(2, nil)[:11], 0, 1, 'x')),
		"long form of 1":      around(append(body(2, nil)[:11], 1, 0x81, 0, 'x')),
		"long form of 0":      around(append(body(2, nil)[:11], 1, 0x80, 0)),
		"part beyond the end": around(append(body(2, nil)[:11], 1, 2, 'x')),
		"part of 2^63":        around(append(body(2, nil)[:11], 1, 0x80, 0x80, 0x80, 0x80, 0x80, 0x80, 0x80, 0x80, 0x80, 1)),
		"65 parts":            record(2, make([][]byte, 65)),
		"2^32 - 1 parts":      around(append(body(2, nil)[:8], 0xff, 0xff, 0xff, 0xff)),
		"above MaxRecord":     record(2, sized(api.MaxRecord-32)),
		"far above MaxRecord": record(2, sized(2*api.MaxRecord)),
		"zeros":               make([]byte, 99),
		"a byte":              {0xa7},
		"little end":          slices.Concat([]byte{0xa7, byte(n), 0, 0, 0, 0, 0, 0, 0}, good),
	} {
		for _, behind := range [][]byte{nil, record(2, parts("b")), record(3, parts("c"))} {
			_, j := over(t, slices.Concat(record(1, parts("a")), b, behind))
			is(t, what, j, "[a] len 1 next 2 torn")
			_, j = over(t, slices.Concat(b, behind))
			is(t, what+", as the first", j, "len 0 next 1 torn")
		}
	}
}

// P5.1, R1: a file of very many records is gone through once, not once for each.
func TestOpenMany(t *testing.T) {
	const n = 200000
	var b []byte
	for i := range uint64(n) {
		b = append(b, record(i+1, nil)...)
	}
	d := load(t, image("j", append(b, 1)), 1<<26)
	if j := open(t, d, "j"); j.Len() != n || j.Next() != n+1 || !j.Torn() || len(j.All()) != n {
		t.Errorf("%d transactions, next %d, torn %v", j.Len(), j.Next(), j.Torn())
	}
}

// P5.6: with a bit of a record turned the good part ends ahead of that record.
func TestOneBit(t *testing.T) {
	l := [][]byte{record(9, parts("one", "", "x")), record(10, nil), record(11, sized(200)), record(12, parts("z"))}
	all := slices.Concat(l...)
	_, j := over(t, all)
	whole := j.All()
	at := 0
	for i, rec := range l {
		next := uint64(9 + i)
		if i == 0 {
			next = 1
		}
		for bit := range 8 * len(rec) {
			b := slices.Clone(all)
			b[at+bit/8] ^= 1 << (bit % 8)
			_, j := over(t, b)
			if !same(j.All(), whole[:i]) || j.Len() != i || j.Next() != next || !j.Torn() {
				t.Fatalf("bit %d of record %d turned: %s", bit, i, state(j))
			}
		}
		at += len(rec)
	}
}

// P5.6: so in a record of MaxRecord bytes.
func TestOneBitOfMany(t *testing.T) {
	rec := record(2, sized(api.MaxRecord-33))
	all := append(record(1, parts("a")), rec...)
	for _, at := range []int{0, 5, 12, 13, 20, 24, 25, 27, 28, 1 << 10, 1 << 19, len(rec) - 6, len(rec) - 5, len(rec) - 1} {
		b := slices.Clone(all)
		b[len(b)-len(rec)+at] ^= 0x10
		_, j := over(t, b)
		is(t, "a bit of many", j, "[a] len 1 next 2 torn")
	}
}
