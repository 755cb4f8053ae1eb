package disk_test

import (
	"fmt"
	"math"
	"testing"

	"tally/api"
)

// P4.1, P4.4, P4.5, P4.8, P4.11: the chapter's examples 1 to 3.
func TestExamples(t *testing.T) {
	d := open(t, 10)
	ok(t, d.Append("a", []byte("xyz")))
	errno(t, "Append without room", d.Append("b", []byte("12345678")), api.ErrDiskFull)
	errno(t, "Append of A", d.Append("A", nil), api.ErrDiskName)
	_, e := d.Read("b")
	errno(t, "Read of b", e, api.ErrDiskNone)
	seen(t, d, "a=xyz")
	strokes(t, d, 2)

	crash(t, d, "")
	crash(t, d, "a=", 1)
	crash(t, d, "a=xy", 1, 2)
	crash(t, d, "a=xyz", -1, -1)
	ok(t, d.Append("a", []byte("q")))

	d = open(t, 10)
	ok(t, d.Append("a", []byte("xyz")), d.SyncNames(), d.Sync("a"), d.Cut("a", 1), d.Append("a", []byte("qq")))
	crash(t, d, "a=xyz", 0)
	crash(t, d, "a=x", 0, 1)
	crash(t, d, "a=xq", 0, 2)
	crash(t, d, "a=xqq", 0, 3)
}

// P4.4: room is shared by all files that are seen, and comes back with what is cut, removed or replaced, safe or not.
func TestAppendRoom(t *testing.T) {
	d := open(t, 5)
	ok(t, d.Append("a", []byte("12")), d.Append("b", []byte("34")))
	errno(t, "two more", d.Append("a", []byte("56")), api.ErrDiskFull)
	errno(t, "two more in a new file", d.Append("c", []byte("56")), api.ErrDiskFull)
	seen(t, d, "a=12 b=34")
	ok(t, d.Append("c", []byte("5")), d.Append("c", nil), d.Append("d", nil))
	errno(t, "one more", d.Append("d", []byte("6")), api.ErrDiskFull)
	ok(t, d.Sync("a"), d.Sync("b"), d.SyncNames())
	ok(t, d.Cut("a", 1), d.Append("d", []byte("6")))
	errno(t, "behind a cut", d.Append("d", []byte("7")), api.ErrDiskFull)
	ok(t, d.Remove("c"), d.Append("d", []byte("7")))
	errno(t, "behind a removal", d.Append("d", []byte("8")), api.ErrDiskFull)
	ok(t, d.Rename("d", "b"), d.Append("e", []byte("89")))
	errno(t, "behind a replacing", d.Append("e", []byte("0")), api.ErrDiskFull)
	seen(t, d, "a=1 b=67 e=89")
	strokes(t, d, 20)
}

// P4.4: at MaxDisk files a new one is ErrDiskName and no stroke, ahead of ErrDiskFull; one that is there goes on.
func TestAppendFiles(t *testing.T) {
	d := open(t, 3)
	for i := range api.MaxDisk {
		ok(t, d.Append(fmt.Sprintf("f%02d", i), nil))
	}
	d.Plan(api.Plan{Off: 1})
	errno(t, "one file more", d.Append("g", nil), api.ErrDiskName)
	errno(t, "one without room", d.Append("g", []byte("1234")), api.ErrDiskName)
	strokes(t, d, api.MaxDisk)
	d.Plan(api.Plan{})
	ok(t, d.Append("f00", []byte("1")), d.Rename("f00", "g"), d.Append("g", []byte("2")))
	errno(t, "the old name", d.Append("f00", nil), api.ErrDiskName)
	ok(t, d.Remove("f01"), d.Append("f00", nil))
	errno(t, "the removed one", d.Append("f01", nil), api.ErrDiskName)
	ok(t, d.Rename("f00", "f02"), d.Append("f01", nil))
	if l, _ := d.List(); len(l) != api.MaxDisk {
		t.Errorf("%d files", len(l))
	}
}

// P4.4: a byte is a unit each; the new file is one name change; of no bytes the file is made alone.
func TestAppendUnits(t *testing.T) {
	d := open(t, 10)
	ok(t, d.Append("a", nil), d.Append("b", []byte("12")), d.Append("a", []byte{}), d.Append("a", []byte("3")), d.Append("a", []byte("45")))
	crash(t, d, "", 0, 1, 1)
	crash(t, d, "a=34", 1, 2, 1)
	crash(t, d, "a=34 b=1", 2, 2, 1)
	crash(t, d, "", 3, 2, 1)
	crash(t, d, "a=345 b=12", 2, 3, 2)
	crash(t, d, "a= b=", 2, 4, 3)
}

// P4.5: lengths about the bounds and at the ends of their type; a cut of nothing is a stroke and no unit.
func TestCut(t *testing.T) {
	d := load(t, image("a=123 b="), 10)
	for _, n := range []int{math.MinInt, -1 << 32, -1, 4, 1 << 32, math.MaxInt} {
		errno(t, fmt.Sprintf("Cut to %d", n), d.Cut("a", n), api.ErrDiskCut)
	}
	errno(t, "Cut of the empty one to 1", d.Cut("b", 1), api.ErrDiskCut)
	strokes(t, d, 0)
	ok(t, d.Cut("b", 0), d.Cut("a", 3))
	strokes(t, d, 2)
	crash(t, d, "a=123 b=", 0, 1, 1)
	ok(t, d.Append("a", []byte("45")), d.Cut("a", 4), d.Cut("a", 4), d.Cut("a", 2), d.Cut("a", 0), d.Append("a", []byte("67")))
	errno(t, "Cut above what is seen", d.Cut("a", 3), api.ErrDiskCut)
	for k, want := range []string{"123", "1234", "12345", "1234", "12", "", "6", "67", "123"} {
		crash(t, d, "a="+want+" b=", 0, k)
	}
	ok(t, d.Sync("a"), d.Cut("a", 0), d.Cut("a", 0))
	crash(t, d, "a=67 b=", 0, 2)
	crash(t, d, "a= b=", 0, 1)
}

// P4.6: Sync makes bytes safe and not their name, SyncNames names and not their bytes; each of its file alone.
func TestSync(t *testing.T) {
	d := open(t, 20)
	ok(t, d.Append("a", []byte("12")), d.Append("b", []byte("34")), d.Sync("a"))
	crash(t, d, "", 0, 0, 0)
	crash(t, d, "a=12", 1, 1)
	crash(t, d, "a=12 b=", 2, 1, 0)
	ok(t, d.SyncNames())
	crash(t, d, "a=12 b=", 1, 1)
	crash(t, d, "a=12 b=3", 1, 1, 1)
	ok(t, d.Append("a", []byte("5")), d.Sync("b"), d.Sync("b"), d.SyncNames())
	crash(t, d, "a=12 b=34")
	crash(t, d, "a=125 b=34", 7, 1, 1)
	ok(t, d.Cut("a", 1), d.Sync("a"), d.Append("a", []byte("6")))
	crash(t, d, "a=1 b=34")
	crash(t, d, "a=16 b=34", 0, 1)
	strokes(t, d, 11)
}

// P4.7: the chapter's example 4, and a file's units go with it from name to name.
func TestRename(t *testing.T) {
	d := load(t, image("a=old"), 20)
	ok(t, d.Append("t", []byte("new")), d.Sync("t"), d.SyncNames(), d.Rename("t", "a"))
	crash(t, d, "a=old t=new", 0)
	crash(t, d, "a=new", 1)
	seen(t, d, "a=new")

	ok(t, d.Append("a", []byte("er")))
	crash(t, d, "a=old t=newe", 0, 1, 1)
	crash(t, d, "a=newe", 1, 1)
	ok(t, d.Rename("a", "b"), d.Rename("b", "a"), d.Sync("a"))
	crash(t, d, "a=old t=newer", 0)
	crash(t, d, "a=newer", 1)
	crash(t, d, "b=newer", 2)
	crash(t, d, "a=newer", 3)
	ok(t, d.SyncNames())
	crash(t, d, "a=newer", 3)
	strokes(t, d, 9)
}

// P4.7: a file that is renamed onto itself stays, with a stroke and without a name change.
func TestRenameOntoItself(t *testing.T) {
	d := load(t, image("a=1 b=2"), 20)
	ok(t, d.Rename("a", "a"), d.Remove("b"))
	strokes(t, d, 2)
	seen(t, d, "a=1")
	crash(t, d, "a=1", 1)
	crash(t, d, "a=1 b=2", 2)
}

// P4.7: a removal is one name change; a file made anew under that name is another file.
func TestRemove(t *testing.T) {
	d := load(t, image("a=1"), 20)
	ok(t, d.Append("a", []byte("2")), d.Remove("a"))
	seen(t, d, "")
	ok(t, d.Append("a", []byte("xyz")), d.Sync("a"), d.Append("a", []byte("q")))
	seen(t, d, "a=xyzq")
	crash(t, d, "a=1", 0)
	crash(t, d, "a=12", 0, 1)
	crash(t, d, "", 1)
	crash(t, d, "a=xyz", 2)
	crash(t, d, "a=xyzq", 2, 1)
	ok(t, d.SyncNames())
	crash(t, d, "a=xyz", 1)
	ok(t, d.Remove("a"), d.SyncNames())
	crash(t, d, "")
	strokes(t, d, 8)
}
