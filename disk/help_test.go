package disk_test

import (
	"strings"
	"testing"

	"tally/api"
	"tally/disk"
)

func open(t *testing.T, room int) *disk.Disk {
	t.Helper()
	d, e := disk.New(room)
	if e != api.OK || d == nil {
		t.Fatalf("New(%d): %d", room, e)
	}
	return d
}

func load(t *testing.T, img []api.FileBytes, room int) *disk.Disk {
	t.Helper()
	d, e := disk.Load(img, room)
	if e != api.OK || d == nil {
		t.Fatalf("Load(%s, %d): %d", told(img), room, e)
	}
	return d
}

// image makes files of a text such as "a=xyz b=".
func image(s string) []api.FileBytes {
	var img []api.FileBytes
	for _, f := range strings.Fields(s) {
		name, data, _ := strings.Cut(f, "=")
		img = append(img, api.FileBytes{Name: name, Data: []byte(data)})
	}
	return img
}

func told(img []api.FileBytes) string {
	var out []string
	for _, f := range img {
		out = append(out, f.Name+"="+string(f.Data))
	}
	return strings.Join(out, " ")
}

func ok(t *testing.T, errs ...api.Errno) {
	t.Helper()
	for i, e := range errs {
		if e != api.OK {
			t.Fatalf("call %d: %d, want OK", i+1, e)
		}
	}
}

func errno(t *testing.T, what string, e, want api.Errno) {
	t.Helper()
	if e != want {
		t.Errorf("%s: %d, want %d", what, e, want)
	}
}

func crash(t *testing.T, d *disk.Disk, want string, picks ...int) {
	t.Helper()
	if got := told(d.Crash(picks)); got != want {
		t.Errorf("Crash(%v) = %q, want %q", picks, got, want)
	}
}

// seen: all that is seen, by List, Read and Size.
func seen(t *testing.T, d *disk.Disk, want string) {
	t.Helper()
	names, e := d.List()
	ok(t, e)
	var img []api.FileBytes
	for _, name := range names {
		b, e := d.Read(name)
		n, f := d.Size(name)
		ok(t, e, f)
		if n != len(b) {
			t.Errorf("Size(%s) = %d, it has %d bytes", name, n, len(b))
		}
		img = append(img, api.FileBytes{Name: name, Data: b})
	}
	if got := told(img); got != want {
		t.Errorf("seen: %q, want %q", got, want)
	}
}

func strokes(t *testing.T, d *disk.Disk, want int) {
	t.Helper()
	if n := d.Strokes(); n != want {
		t.Errorf("Strokes() = %d, want %d", n, want)
	}
}
