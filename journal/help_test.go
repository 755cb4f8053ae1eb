package journal_test

import (
	"bytes"
	"encoding/binary"
	"hash/crc32"
	"slices"
	"strconv"
	"strings"
	"testing"

	"tally/api"
	"tally/disk"
	"tally/journal"
)

const wide = 1 << 22 // room enough

func parts(l ...string) [][]byte {
	var b [][]byte
	for _, s := range l {
		b = append(b, []byte(s))
	}
	return b
}

// sized makes one part of so many bytes.
func sized(n int) [][]byte { return [][]byte{make([]byte, n)} }

func body(n uint64, l [][]byte) []byte {
	b := binary.BigEndian.AppendUint64(nil, n)
	b = binary.BigEndian.AppendUint32(b, uint32(len(l)))
	for _, p := range l {
		b = binary.AppendUvarint(b, uint64(len(p)))
		b = append(b, p...)
	}
	return b
}

// sealed lays a head and a tail with right sums around a body, whatever it is and whatever the marks and the length are.
func sealed(head byte, length uint64, b []byte, tail byte) []byte {
	r := binary.BigEndian.AppendUint64([]byte{head}, length)
	r = binary.BigEndian.AppendUint32(r, crc32.ChecksumIEEE(r))
	r = append(r, b...)
	r = binary.BigEndian.AppendUint32(r, crc32.ChecksumIEEE(b))
	return append(r, tail)
}

func around(b []byte) []byte { return sealed(0xa7, uint64(len(b)), b, 0x5a) }

func record(n uint64, l [][]byte) []byte { return around(body(n, l)) }

// records: a row of records, numbered from n on, of one part each.
func records(n uint64, l ...string) []byte {
	var b []byte
	for i, s := range l {
		b = append(b, record(n+uint64(i), parts(s))...)
	}
	return b
}

func image(name string, b []byte) []api.FileBytes {
	return []api.FileBytes{{Name: name, Data: b}}
}

func load(t *testing.T, img []api.FileBytes, room int) *disk.Disk {
	t.Helper()
	d, e := disk.Load(img, room)
	if e != api.OK || d == nil {
		t.Fatalf("Load: %d", e)
	}
	return d
}

func open(t *testing.T, d *disk.Disk, name string) *journal.Journal {
	t.Helper()
	j, e := journal.Open(d, name)
	if e != api.OK || j == nil {
		t.Fatalf("Open(%q): %v, %d", name, j, e)
	}
	return j
}

// over opens the journal j over a file of these bytes.
func over(t *testing.T, b []byte) (*disk.Disk, *journal.Journal) {
	t.Helper()
	d := load(t, image("j", b), wide)
	return d, open(t, d, "j")
}

// told: transactions as text: [a] [b cd].
func told(all [][][]byte) string {
	var out []string
	for _, l := range all {
		out = append(out, "["+string(bytes.Join(l, []byte(" ")))+"]")
	}
	return strings.Join(out, " ")
}

// same: whether two rows of transactions are the same, part by part.
func same(a, b [][][]byte) bool {
	return slices.EqualFunc(a, b, func(l, m [][]byte) bool { return slices.EqualFunc(l, m, bytes.Equal) })
}

// state: all that a journal tells of itself.
func state(j *journal.Journal) string {
	s := told(j.All()) + " len " + strconv.Itoa(j.Len()) + " next " + strconv.FormatUint(j.Next(), 10)
	if j.Torn() {
		s += " torn"
	}
	return strings.TrimSpace(s)
}

func is(t *testing.T, what string, j *journal.Journal, want string) {
	t.Helper()
	if got := state(j); got != want {
		t.Fatalf("%s: %.200s, want %.200s", what, got, want)
	}
}

func errno(t *testing.T, what string, e, want api.Errno) {
	t.Helper()
	if e != want {
		t.Fatalf("%s: %d, want %d", what, e, want)
	}
}

func ok(t *testing.T, errs ...api.Errno) {
	t.Helper()
	for i, e := range errs {
		if e != api.OK {
			t.Fatalf("call %d: %d, want OK", i+1, e)
		}
	}
}

// strokes: how many a call makes, with what it answers.
func strokes(t *testing.T, d *disk.Disk, what string, call func([][]byte) api.Errno, l [][]byte, want api.Errno, n int) {
	t.Helper()
	ahead := d.Strokes()
	errno(t, what, call(l), want)
	if got := d.Strokes() - ahead; got != n {
		t.Fatalf("%s: %d strokes, want %d", what, got, n)
	}
}

func listed(img []api.FileBytes) string {
	var out []string
	for _, f := range img {
		out = append(out, f.Name+"="+string(f.Data))
	}
	return strings.Join(out, " ")
}

// files: all that is seen on a disk.
func files(t *testing.T, d *disk.Disk) string {
	t.Helper()
	l, e := d.List()
	ok(t, e)
	var img []api.FileBytes
	for _, name := range l {
		b, e := d.Read(name)
		ok(t, e)
		img = append(img, api.FileBytes{Name: name, Data: b})
	}
	return listed(img)
}

func holds(t *testing.T, d *disk.Disk, name string, want []byte) {
	t.Helper()
	if b, e := d.Read(name); e != api.OK || !bytes.Equal(b, want) {
		t.Fatalf("%s holds %.80x, %d, want %.80x", name, b, e, want)
	}
}
