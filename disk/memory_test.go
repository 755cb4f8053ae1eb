package disk_test

import (
	"slices"
	"testing"

	"tally/api"
)

// spoil overwrites bytes, and the spare room behind them.
func spoil(b []byte) {
	b = b[:cap(b)]
	for i := range b {
		b[i] = '!'
	}
}

func spoilImage(img []api.FileBytes) {
	img = img[:cap(img)]
	for i := range img {
		spoil(img[i].Data)
		img[i] = api.FileBytes{Name: "spoilt"}
	}
}

// P4.14, R2: what is handed in is not kept: it may be overwritten behind the call, with the spare room behind its end.
func TestHandedInIsNotKept(t *testing.T) {
	img := image("a=12 b=34")
	d := load(t, img, 100)
	spoilImage(img)
	b := []byte("5678")
	ok(t, d.Append("a", b[:2]), d.Append("c", b))
	spoil(b)
	b = []byte("90")
	ok(t, d.Append("a", b), d.Append("c", b[:1]))
	spoil(b)
	seen(t, d, "a=125690 b=34 c=56789")
	crash(t, d, "a=12569 b=34 c=567", 1, 3, 0, 3)
	ok(t, d.Sync("a"), d.SyncNames())
	crash(t, d, "a=125690 b=34 c=")
}

// P4.14, R2: nothing that is handed in is changed, the spare room behind it neither.
func TestHandedInIsNotChanged(t *testing.T) {
	room := []byte("12345678")
	picks := []int{1, 2, 3, 4, 5}
	img := image("a=12 b=34 c=56")
	d := load(t, img[:2], 100)
	ok(t, d.Append("a", room[:3]), d.Append("a", room[:2]), d.Append("d", room[:1]), d.Append("d", room[4:6]))
	for range 3 {
		d.Crash(picks[:3])
		ok(t, d.Sync("a"), d.Cut("a", 1), d.Append("a", room[:4]))
	}
	if string(room) != "12345678" || !slices.Equal(picks, []int{1, 2, 3, 4, 5}) || told(img) != "a=12 b=34 c=56" {
		t.Errorf("changed: %q, %v, %s", room, picks, told(img))
	}
}

// P4.14, R2: what is answered is the caller's own: it may be overwritten, with its spare room, and nothing else changes by that.
func TestAnswersAreNew(t *testing.T) {
	d := load(t, image("a=12 b="), 100)
	ok(t, d.Append("a", []byte("345")), d.Append("b", []byte("6")), d.Append("c", []byte("7")), d.Cut("a", 4), d.Sync("b"))
	for range 2 {
		for range 2 {
			first, _ := d.Read("a")
			other, _ := d.Read("a")
			spoil(first)
			if string(other) != "1234" {
				t.Fatalf("two answers of Read share memory: %q", other)
			}
			spoil(other)
			list, _ := d.List()
			again, _ := d.List()
			list = list[:cap(list)]
			for i := range list {
				list[i] = "spoilt"
			}
			if !slices.Equal(again, []string{"a", "b", "c"}) {
				t.Fatalf("two answers of List share memory: %q", again)
			}
			x, y := d.Crash([]int{1, 4, 0, 1}), d.Crash([]int{1, 4, 0, 1})
			spoilImage(x)
			if len(y) != 3 || string(y[0].Data[:2]) != "12" {
				t.Fatalf("two answers of Crash share memory: %s", told(y))
			}
			spoilImage(y)
		}
		seen(t, d, "a=1234 b=6 c=7")
		ok(t, d.Sync("a"), d.SyncNames(), d.Sync("c"))
		crash(t, d, "a=1234 b=6 c=7")
	}
}

// P4.14: appending to an answer, or to what was handed in, does not reach the disk, and no file reaches another.
func TestSpareRoom(t *testing.T) {
	d := open(t, 1000)
	ok(t, d.Append("a", []byte("123")), d.Append("b", []byte("x")), d.Sync("a"))
	for range 50 {
		b, _ := d.Read("a")
		_ = append(b, "!!!"...)
		img := d.Crash([]int{2, -1, -1})
		_ = append(img[0].Data, "???"...)
		ok(t, d.Append("a", []byte("4")), d.Cut("a", 3), d.Append("a", []byte("56")), d.Sync("a"), d.Cut("a", 3), d.Append("b", []byte("y")))
	}
	if b, _ := d.Read("a"); string(b) != "123" {
		t.Errorf("a is %q", b)
	}
	if b, _ := d.Read("b"); len(b) != 51 || string(b[:2]) != "xy" || slices.Contains(b, '!') {
		t.Errorf("b is %q", b)
	}
	crash(t, d, "a=12356 b=", 2)
}

// P4.14: two disks have nothing in common, also not one that is loaded from the other's image.
func TestTwoDisks(t *testing.T) {
	x, y := open(t, 10), open(t, 20)
	x.Plan(api.Plan{Off: 3})
	ok(t, x.Append("a", []byte("1")), y.Append("b", []byte("2")), x.Append("a", []byte("34")))
	img := x.Crash([]int{1, -1})
	z, again := load(t, img, 10), load(t, img, 10)
	errno(t, "x", x.Remove("a"), api.ErrDiskOff)
	ok(t, y.Sync("b"), y.SyncNames(), z.Cut("a", 1), z.Append("a", []byte("5")), z.Sync("a"))
	seen(t, y, "b=2")
	seen(t, z, "a=15")
	seen(t, again, "a=134")
	crash(t, x, "a=134", 1, 3)
	strokes(t, x, 3)
	strokes(t, y, 3)
	strokes(t, z, 3)
	strokes(t, again, 0)
}
