package disk_test

import (
	"math"
	"testing"
)

// P4.11: picks in turn by name, modulo the number of changes and 1; below 0 as well; missing ones 0; too many are not looked at.
func TestCrashPicks(t *testing.T) {
	d := open(t, 100)
	ok(t, d.Append("b", []byte("1234")), d.Append("a", []byte("xy")), d.SyncNames(), d.Append("c", nil))
	for _, c := range []struct {
		want  string
		picks []int
	}{
		{"a= b=", nil},
		{"a= b= c=", []int{1}},
		{"a= b=", []int{2}},
		{"a= b= c=", []int{-1}},
		{"a= b=", []int{-2}},
		{"a=x b=", []int{0, 1}},
		{"a=xy b=", []int{0, 2}},
		{"a= b=", []int{0, 3}},
		{"a=x b=1234", []int{0, 4, 4}},
		{"a=xy b=1234", []int{0, -1, -1}},
		{"a=x b=", []int{0, -2, -5}},
		{"a= b=1234", []int{0, -3, -6}},
		{"a=xy b=1 c=", []int{-3, -4, -4, -7, -9}},
		{"a=x b=12 c=", []int{math.MaxInt, math.MaxInt, math.MinInt, math.MinInt, math.MaxInt}},
	} {
		crash(t, d, c.want, c.picks...)
	}
}

// P4.11: a file's pick is that of its place among the names that are left, not among those that are seen.
func TestCrashTurns(t *testing.T) {
	d := open(t, 100)
	ok(t, d.Append("m", []byte("123")), d.SyncNames(), d.Append("a", []byte("45")), d.Rename("m", "0"), d.Remove("a"))
	crash(t, d, "m=1", 0, 1, 2)
	crash(t, d, "a=4 m=12", 1, 1, 2)
	crash(t, d, "0=1 a=45", 2, 1, 2)
	crash(t, d, "0=1", 3, 1, 2)
}

// P4.11: Crash changes nothing: asked again it tells the same, and the disk goes on as if it had not been asked.
func TestCrashChangesNothing(t *testing.T) {
	d := load(t, image("a=123 b=4"), 10)
	ok(t, d.Cut("a", 1), d.Append("a", []byte("xyz")), d.Rename("b", "c"))
	for range 3 {
		crash(t, d, "a=1x c=4", 1, 2)
		crash(t, d, "a=123 b=4", 0, 0)
		crash(t, d, "a=1 c=4", -1, 1)
	}
	strokes(t, d, 3)
	seen(t, d, "a=1xyz c=4")
	ok(t, d.Sync("a"), d.SyncNames())
	crash(t, d, "a=1xyz c=4")
	ok(t, d.Append("a", []byte("q")), d.Sync("a"))
	seen(t, d, "a=1xyzq c=4")
}

// P4.11: an image may have more bytes than the room, where a cut or a removal is lost and what came in its place is not.
func TestCrashAboveRoom(t *testing.T) {
	d := load(t, image("a=123 b=456"), 6)
	ok(t, d.Cut("a", 0), d.Append("b", []byte("789")))
	crash(t, d, "a=123 b=456789", 0, 0, -1)
	d = load(t, image("a=123 b=456"), 6)
	ok(t, d.Remove("a"), d.Append("b", []byte("789")))
	crash(t, d, "a=123 b=456789", 0, 0, 3)
}
