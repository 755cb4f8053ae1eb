package disk_test

import (
	"fmt"
	"math"
	"testing"

	"tally/api"
	"tally/disk"
)

// P4.10: the chapter's examples 5 and 6.
func TestPlanExamples(t *testing.T) {
	d := open(t, 10)
	d.Plan(api.Plan{Off: 2})
	ok(t, d.Append("a", []byte("x")))
	errno(t, "the second", d.Append("a", []byte("y")), api.ErrDiskOff)
	_, e := d.Read("a")
	errno(t, "Read", e, api.ErrDiskOff)
	crash(t, d, "a=xy", 1, 2)

	d = open(t, 10)
	d.Plan(api.Plan{FullFrom: 2, FullTo: 2})
	ok(t, d.Append("a", []byte("x")))
	errno(t, "the second", d.Append("a", []byte("y")), api.ErrDiskFull)
	ok(t, d.Append("a", []byte("z")))
	seen(t, d, "a=xz")

	d = open(t, 10)
	ok(t, d.Append("a", []byte("x")), d.SyncNames())
	d.Plan(api.Plan{Off: 1})
	errno(t, "Sync", d.Sync("a"), api.ErrDiskOff)
	crash(t, d, "a=")
	crash(t, d, "a=x", 0, 1)
}

// allOff: every call of a disk whose power is off, given what may be and what may not.
func allOff(t *testing.T, d *disk.Disk) {
	t.Helper()
	for _, name := range []string{"a", "b", "none", "A", ""} {
		b, read := d.Read(name)
		n, size := d.Size(name)
		if len(b) != 0 || n != 0 {
			t.Errorf("off: Read(%s) = %q, Size %d", name, b, n)
		}
		for what, e := range map[string]api.Errno{
			"Read": read, "Size": size, "Append": d.Append(name, []byte("q")), "Append of nothing": d.Append(name, nil), "Append without room": d.Append(name, make([]byte, 1000)),
			"Cut": d.Cut(name, 0), "Cut to -1": d.Cut(name, -1), "Sync": d.Sync(name), "Remove": d.Remove(name),
			"Rename": d.Rename(name, "c"), "Rename to it": d.Rename("a", name), "Rename to a bad name": d.Rename(name, "C"),
		} {
			if e != api.ErrDiskOff {
				t.Errorf("off: %s of %q: %d, want %d", what, name, e, api.ErrDiskOff)
			}
		}
	}
	errno(t, "off: SyncNames", d.SyncNames(), api.ErrDiskOff)
	if l, e := d.List(); len(l) != 0 || e != api.ErrDiskOff {
		t.Errorf("off: List() = %q, %d", l, e)
	}
}

// P4.3, P4.10: the power goes off at each kind of call: what can be lost is told as done, nothing of it is safe; from then on all is ErrDiskOff, and nothing changes.
func TestOff(t *testing.T) {
	for _, c := range []struct {
		what       string
		call       func(d *disk.Disk) api.Errno
		none, full string // what is left with no pick, and with the greatest ones
	}{
		{"Append", func(d *disk.Disk) api.Errno { return d.Append("a", []byte("34")) }, "a=12 b=x", "a=1234 b=xy"},
		{"Append of a new file", func(d *disk.Disk) api.Errno { return d.Append("c", []byte("3")) }, "a=12 b=x", "a=12 b=xy c=3"},
		{"Append of nothing", func(d *disk.Disk) api.Errno { return d.Append("a", nil) }, "a=12 b=x", "a=12 b=xy"},
		{"Append of a new empty file", func(d *disk.Disk) api.Errno { return d.Append("c", nil) }, "a=12 b=x", "a=12 b=xy c="},
		{"Append to the last byte", func(d *disk.Disk) api.Errno { return d.Append("a", []byte("345678")) }, "a=12 b=x", "a=12345678 b=xy"},
		{"Append without room", func(d *disk.Disk) api.Errno { return d.Append("a", []byte("3456789")) }, "a=12 b=x", "a=12 b=xy"},
		{"Append of a new file without room", func(d *disk.Disk) api.Errno { return d.Append("c", []byte("3456789")) }, "a=12 b=x", "a=12 b=xy"},
		{"Cut", func(d *disk.Disk) api.Errno { return d.Cut("a", 1) }, "a=12 b=x", "a=1 b=xy"},
		{"Cut of nothing", func(d *disk.Disk) api.Errno { return d.Cut("a", 2) }, "a=12 b=x", "a=12 b=xy"},
		{"Sync", func(d *disk.Disk) api.Errno { return d.Sync("b") }, "a=12 b=x", "a=12 b=xy"},
		{"SyncNames", func(d *disk.Disk) api.Errno { return d.SyncNames() }, "a=12 b=x", "a=12 b=xy"},
		{"Rename", func(d *disk.Disk) api.Errno { return d.Rename("a", "c") }, "a=12 b=x", "b=xy c=12"},
		{"Rename onto one", func(d *disk.Disk) api.Errno { return d.Rename("b", "a") }, "a=12 b=x", "a=xy"},
		{"Rename onto itself", func(d *disk.Disk) api.Errno { return d.Rename("a", "a") }, "a=12 b=x", "a=12 b=xy"},
		{"Remove", func(d *disk.Disk) api.Errno { return d.Remove("a") }, "a=12 b=x", "b=xy"},
	} {
		d := load(t, image("a=12 b=x"), 10)
		ok(t, d.Append("b", []byte("y")))
		d.Plan(api.Plan{Off: 1})
		errno(t, c.what, c.call(d), api.ErrDiskOff)
		for range 2 {
			crash(t, d, c.none)
			crash(t, d, c.full, -1, -1, -1, -1)
			allOff(t, d)
			d.Plan(api.Plan{})
			strokes(t, d, 2)
			if d.Room() != 10 {
				t.Errorf("%s: room %d", c.what, d.Room())
			}
		}
	}
}

// P4.6, P4.10: a SyncNames at which the power goes off makes no name safe.
func TestOffSyncNames(t *testing.T) {
	d := load(t, image("a=1"), 10)
	ok(t, d.Append("b", []byte("2")), d.Remove("a"))
	d.Plan(api.Plan{Off: 1})
	errno(t, "SyncNames", d.SyncNames(), api.ErrDiskOff)
	crash(t, d, "a=1", 0)
	crash(t, d, "a=1 b=2", 1, 0, 1)
	crash(t, d, "b=2", 2, 1)
}

// P4.9, P4.10: calls that are refused for a name, a file or a length are no strokes: the power stays on.
func TestOffNoStroke(t *testing.T) {
	d := load(t, image("a=12"), 4)
	d.Plan(api.Plan{Off: 2})
	errno(t, "an Append that is full", d.Append("a", []byte("345")), api.ErrDiskFull)
	errno(t, "a bad name", d.Append("A", nil), api.ErrDiskName)
	errno(t, "no file", d.Sync("b"), api.ErrDiskNone)
	errno(t, "a bad length", d.Cut("a", 3), api.ErrDiskCut)
	errno(t, "no file to rename", d.Rename("b", "c"), api.ErrDiskNone)
	seen(t, d, "a=12")
	strokes(t, d, 1)
	errno(t, "the second stroke", d.SyncNames(), api.ErrDiskOff)
	strokes(t, d, 2)
}

// P4.10: the strokes of a plan are counted from it on, those of the disk go on; an older plan is forgotten.
func TestPlanCounts(t *testing.T) {
	d := open(t, 100)
	d.Plan(api.Plan{Off: 3, FullFrom: 2, FullTo: 5})
	ok(t, d.Append("a", []byte("1")))
	errno(t, "full", d.Append("a", []byte("2")), api.ErrDiskFull)
	d.Plan(api.Plan{FullFrom: 3, FullTo: 4})
	ok(t, d.Append("a", []byte("3")), d.Append("a", []byte("4")), d.Sync("a"))
	errno(t, "full", d.Append("a", nil), api.ErrDiskFull)
	ok(t, d.Append("a", []byte("5")))
	strokes(t, d, 7)
	d.Plan(api.Plan{FullFrom: 1, FullTo: math.MaxInt})
	errno(t, "full", d.Append("a", []byte("6")), api.ErrDiskFull)
	errno(t, "full", d.Append("b", nil), api.ErrDiskFull)
	ok(t, d.Cut("a", 2), d.Sync("a"), d.Rename("a", "b"), d.SyncNames(), d.Remove("b"))
	d.Plan(api.Plan{Off: 4})
	ok(t, d.Append("c", []byte("7")), d.Append("c", []byte("8")), d.Sync("c"))
	d.Plan(api.Plan{Off: 2})
	ok(t, d.SyncNames())
	errno(t, "the second", d.Remove("c"), api.ErrDiskOff)
	crash(t, d, "c=78")
	strokes(t, d, 19)
}

// P4.10: numbers at and beyond the bounds; a plan that says nothing does nothing.
func TestPlanBounds(t *testing.T) {
	for _, c := range []struct {
		plan api.Plan
		full string // F: the first, second .. Append is full; O: off
	}{
		{api.Plan{}, "...."},
		{api.Plan{Off: -1, FullFrom: -1, FullTo: -1}, "...."},
		{api.Plan{Off: math.MinInt}, "...."},
		{api.Plan{Off: math.MaxInt}, "...."},
		{api.Plan{FullTo: 4}, "...."},
		{api.Plan{FullFrom: -3, FullTo: 4}, "...."},
		{api.Plan{FullFrom: math.MinInt, FullTo: math.MaxInt}, "...."},
		{api.Plan{FullFrom: 2, FullTo: 1}, "...."},
		{api.Plan{FullFrom: 1, FullTo: math.MinInt}, "...."},
		{api.Plan{FullFrom: 1, FullTo: 1}, "F..."},
		{api.Plan{FullFrom: 2, FullTo: 3}, ".FF."},
		{api.Plan{FullFrom: 4, FullTo: math.MaxInt}, "...F"},
		{api.Plan{FullFrom: math.MaxInt, FullTo: math.MaxInt}, "...."},
		{api.Plan{Off: 3, FullFrom: 2, FullTo: 2}, ".FOO"},
		{api.Plan{Off: 1}, "OOOO"},
		{api.Plan{Off: 4}, "...O"},
	} {
		d := open(t, 100)
		d.Plan(c.plan)
		got := ""
		for range 4 {
			e := d.Append("a", []byte("x"))
			got += map[api.Errno]string{api.OK: ".", api.ErrDiskFull: "F", api.ErrDiskOff: "O"}[e]
		}
		if got != c.full {
			t.Errorf("%+v: %s, want %s", c.plan, got, c.full)
		}
	}
}

// P4.10: where the plan says full and off of one stroke, the power goes off and nothing is appended, no file made.
func TestFullAndOff(t *testing.T) {
	for _, name := range []string{"a", "b"} {
		d := load(t, image("a=1"), 10)
		d.Plan(api.Plan{Off: 1, FullFrom: 1, FullTo: 1})
		errno(t, "Append", d.Append(name, []byte("2")), api.ErrDiskOff)
		crash(t, d, "a=1", 1, 1, 1)
		strokes(t, d, 1)
	}
	d := load(t, image("a=1"), 10)
	d.Plan(api.Plan{Off: 1, FullFrom: 1, FullTo: 1})
	errno(t, "Cut", d.Cut("a", 0), api.ErrDiskOff)
	crash(t, d, "a=", 0, 1)
}

// P4.10, P4.11: a plan outlives a Crash that is only asked for.
func TestPlanAndCrash(t *testing.T) {
	d := open(t, 10)
	d.Plan(api.Plan{Off: 3})
	for i := range 2 {
		ok(t, d.Append("a", []byte("x")))
		crash(t, d, fmt.Sprintf("a=%.*s", i+1, "xx"), 1, -1)
	}
	errno(t, "the third", d.Sync("a"), api.ErrDiskOff)
}
