package disk_test

import (
	"fmt"
	"math"
	"slices"
	"strings"
	"testing"

	"tally/api"
	"tally/disk"
)

// P4.1, P4.2: rooms about the bounds and at the ends of their type; ErrDiskRoom ahead of ErrDiskImage.
func TestRooms(t *testing.T) {
	for _, room := range []int{math.MinInt, -1 << 32, -1, api.MaxRoom + 1, 1 << 32, math.MaxInt} {
		if d, e := disk.New(room); d != nil || e != api.ErrDiskRoom {
			t.Errorf("New(%d) = %v, %d", room, d, e)
		}
		for _, img := range []string{"", "a=x", "b= a="} {
			if d, e := disk.Load(image(img), room); d != nil || e != api.ErrDiskRoom {
				t.Errorf("Load(%s, %d) = %v, %d", img, room, d, e)
			}
		}
	}
	for _, room := range []int{0, 1, 10, api.MaxRoom - 1, api.MaxRoom} {
		for _, d := range []*disk.Disk{open(t, room), load(t, nil, room), load(t, image("a="), room)} {
			if d.Room() != room || d.Strokes() != 0 {
				t.Errorf("room %d, strokes %d; want %d, 0", d.Room(), d.Strokes(), room)
			}
		}
		seen(t, open(t, room), "")
		crash(t, open(t, room), "", 1, 2, 3)
	}
}

// P4.1: a disk's greatest room is there, and not a byte more.
func TestGreatestRoom(t *testing.T) {
	d := open(t, api.MaxRoom)
	ok(t, d.Append("a", make([]byte, api.MaxRoom-1)))
	errno(t, "two bytes more", d.Append("b", make([]byte, 2)), api.ErrDiskFull)
	ok(t, d.Append("b", make([]byte, 1)))
	errno(t, "one more", d.Append("a", make([]byte, 1)), api.ErrDiskFull)
	ok(t, d.Sync("a"), d.Sync("b"), d.SyncNames())
	if img := d.Crash(nil); len(img) != 2 || len(img[0].Data) != api.MaxRoom-1 || len(img[1].Data) != 1 {
		t.Error("what was safe is not there")
	}
}

// P4.2: images that may not be.
func TestLoadRefused(t *testing.T) {
	long := strings.Repeat("x", 65)
	for _, img := range []string{
		"b= a=", "a= a=", "a= c= b=", "a= b= a=", "b=1 a=2", "a=1 a=1",
		"=", "A=", "a/b=", "a= B=", "B= a=", "ä=", long + "=",
		"a=12345678901", "a=123456 b=12345", "a=1234567890 b=1", "a= b=12345678901",
	} {
		if d, e := disk.Load(image(img), 10); d != nil || e != api.ErrDiskImage {
			t.Errorf("Load(%s) = %v, %d", img, d, e)
		}
	}
	var many []api.FileBytes
	for i := range api.MaxDisk + 1 {
		many = append(many, api.FileBytes{Name: fmt.Sprintf("f%02d", i)})
	}
	if d, e := disk.Load(many, 10); d != nil || e != api.ErrDiskImage {
		t.Errorf("Load of %d files = %v, %d", len(many), d, e)
	}
	d := load(t, many[:api.MaxDisk], 10)
	if l, e := d.List(); len(l) != api.MaxDisk || e != api.OK {
		t.Errorf("of %d files there are %d, %d", api.MaxDisk, len(l), e)
	}
}

// P4.2, R3: just these files, all of it safe, no strokes, no plan, the power on.
func TestLoad(t *testing.T) {
	img := append(image("-=1 .=22 0=333 _= a=4444"), api.FileBytes{Name: strings.Repeat("z", 64)})
	want := told(img)
	d := load(t, img, 10)
	seen(t, d, want)
	strokes(t, d, 0)
	for _, picks := range [][]int{nil, {}, {1}, {0, 1, 2, 3}, {-1, -1, -1, -1, -1, -1}} {
		crash(t, d, want, picks...)
	}
	errno(t, "one byte more", d.Append("a", []byte("5")), api.ErrDiskFull)
	ok(t, d.Cut("a", 3), d.Append("b", []byte("5")), d.SyncNames())
	crash(t, d, strings.Replace(want, " z", " b= z", 1))
	crash(t, d, strings.Replace(want, "4444 z", "444 b=5 z", 1), 0, 0, 0, 0, 0, 1, 1)
}

// P4.2, P4.13: what Crash tells is an image, even of more bytes than the disk's room; loaded, it is all safe.
func TestLoadOfCrash(t *testing.T) {
	d := load(t, image("a=123456"), 6)
	ok(t, d.Remove("a"), d.Append("b", []byte("abcdef")), d.Rename("b", "c"), d.Append("a", nil))
	ok(t, d.Cut("c", 0), d.Append("a", []byte("uvw")), d.Append("c", []byte("x")))
	for picks0 := range 5 {
		for picks1 := range 12 {
			for picks2 := range 12 {
				img := d.Crash([]int{picks0, picks1, picks2})
				x := load(t, img, 12)
				seen(t, x, told(img))
				for _, picks := range [][]int{nil, {1, 1, 1}, {picks0, picks1, picks2}, {-1, -1, -1}} {
					crash(t, x, told(img), picks...)
				}
			}
		}
	}
	if d, e := disk.Load(d.Crash([]int{4, -2, 6}), 6); d != nil || e != api.ErrDiskImage {
		t.Errorf("an image of more bytes than the room: %v, %d", d, e)
	}
}

// P4.4 to P4.8: every byte in a name, names of every length; a name that may not be is ErrDiskName in every call, and no stroke.
func TestNames(t *testing.T) {
	var names []string
	for c := range 256 {
		names = append(names, string([]byte{byte(c)}), string([]byte{'a', byte(c)}), string([]byte{byte(c), 'a'}))
	}
	for n := range 70 {
		names = append(names, strings.Repeat("a", n), strings.Repeat(".", n))
	}
	for _, name := range names {
		good := len(name) >= 1 && len(name) <= 64 && strings.Trim(name, "abcdefghijklmnopqrstuvwxyz0123456789.-_") == ""
		d := load(t, image("k=v"), 10)
		if good {
			ok(t, d.Append(name, []byte("x")), d.Rename(name, "other"), d.Rename("other", name), d.Remove(name))
			strokes(t, d, 4)
			continue
		}
		_, read := d.Read(name)
		_, size := d.Size(name)
		for what, e := range map[string]api.Errno{
			"Append": d.Append(name, []byte("x")), "Append of nothing": d.Append(name, nil), "Append without room": d.Append(name, make([]byte, 11)),
			"Cut": d.Cut(name, 0), "Cut of -1": d.Cut(name, -1), "Sync": d.Sync(name), "Remove": d.Remove(name), "Read": read, "Size": size,
			"Rename": d.Rename(name, "l"), "Rename to it": d.Rename("k", name), "Rename of none to it": d.Rename("none", name), "Rename of itself": d.Rename(name, name),
		} {
			if e != api.ErrDiskName {
				t.Errorf("%s of %q: %d, want %d", what, name, e, api.ErrDiskName)
			}
		}
		strokes(t, d, 0)
		seen(t, d, "k=v")
	}
}

// P4.5 to P4.8: what no file is seen for is ErrDiskNone, and no stroke; so is one that was removed, renamed or never made for want of room.
func TestNone(t *testing.T) {
	d := load(t, image("gone=1 old=2"), 3)
	ok(t, d.Remove("gone"), d.Rename("old", "new"))
	errno(t, "Append without room", d.Append("full", []byte("123")), api.ErrDiskFull)
	for _, name := range []string{"gone", "old", "full", "never"} {
		_, read := d.Read(name)
		_, size := d.Size(name)
		for what, e := range map[string]api.Errno{
			"Cut": d.Cut(name, 0), "Cut of -1": d.Cut(name, -1), "Sync": d.Sync(name), "Remove": d.Remove(name), "Read": read, "Size": size,
			"Rename": d.Rename(name, "new"), "Rename onto itself": d.Rename(name, name),
		} {
			if e != api.ErrDiskNone {
				t.Errorf("%s of %q: %d, want %d", what, name, e, api.ErrDiskNone)
			}
		}
	}
	strokes(t, d, 3)
	seen(t, d, "new=2")
}

// P4.8: the bytes and names that are seen, whatever of them is safe; List sorted by bytes.
func TestSeen(t *testing.T) {
	d := open(t, 100)
	for _, name := range []string{"b", "a", "_", "10", "9", "a.b", "a-b", "ab", "aa", "z"} {
		ok(t, d.Append(name, []byte(name)))
	}
	want := []string{"10", "9", "_", "a", "a-b", "a.b", "aa", "ab", "b", "z"}
	if l, e := d.List(); !slices.Equal(l, want) || e != api.OK {
		t.Errorf("List() = %q, %d, want %q", l, e, want)
	}
	ok(t, d.Sync("ab"), d.SyncNames(), d.Append("ab", []byte("cd")), d.Cut("ab", 3), d.Rename("ab", "b"), d.Remove("z"))
	seen(t, d, "10=10 9=9 _=_ a=a a-b=a-b a.b=a.b aa=aa b=abc")
	strokes(t, d, 16)
}
