package disk_test

import (
	"maps"
	"math"
	"math/rand"
	"slices"
	"strings"
	"testing"

	"tally/api"
	"tally/disk"
)

// A model of a disk that keeps no changes, but what was seen behind each of them: states[0] is safe, the last one is seen.
type model struct {
	room, strokes, now int
	off                bool
	plan               api.Plan
	names              []map[string]*bytesModel
}

type bytesModel struct {
	states []string
}

func (f *bytesModel) seen() string { return f.states[len(f.states)-1] }

func (f *bytesModel) then(s string) { f.states = append(f.states, s) }

func newModel(room int) *model {
	return &model{room: room, names: []map[string]*bytesModel{{}}}
}

func (m *model) seen() map[string]*bytesModel { return m.names[len(m.names)-1] }

func (m *model) then(names map[string]*bytesModel) { m.names = append(m.names, names) }

func (m *model) refuse(none bool, names ...string) api.Errno {
	if m.off {
		return api.ErrDiskOff
	}
	for _, n := range names {
		if n == "" || len(n) > 64 || strings.Trim(n, "abcdefghijklmnopqrstuvwxyz0123456789.-_") != "" {
			return api.ErrDiskName
		}
	}
	if none && m.seen()[names[0]] == nil {
		return api.ErrDiskNone
	}
	return api.OK
}

func (m *model) stroke() api.Errno {
	m.strokes++
	m.now++
	if m.now == m.plan.Off {
		m.off = true
		return api.ErrDiskOff
	}
	return api.OK
}

func (m *model) Append(name string, b []byte) api.Errno {
	if e := m.refuse(false, name); e != api.OK {
		return e
	}
	f := m.seen()[name]
	if f == nil && len(m.seen()) == 64 {
		return api.ErrDiskName
	}
	e := m.stroke()
	used := len(b)
	for _, g := range m.seen() {
		used += len(g.seen())
	}
	planned := m.plan.FullFrom > 0 && m.now >= m.plan.FullFrom && m.now <= m.plan.FullTo
	if planned || used > m.room {
		if e == api.OK {
			e = api.ErrDiskFull
		}
		return e
	}
	if f == nil {
		f = &bytesModel{states: []string{""}}
		names := maps.Clone(m.seen())
		names[name] = f
		m.then(names)
	}
	for _, c := range b {
		f.then(f.seen() + string([]byte{c}))
	}
	return e
}

func (m *model) Cut(name string, n int) api.Errno {
	if e := m.refuse(true, name); e != api.OK {
		return e
	}
	f := m.seen()[name]
	if n < 0 || n > len(f.seen()) {
		return api.ErrDiskCut
	}
	e := m.stroke()
	if n < len(f.seen()) {
		f.then(f.seen()[:n])
	}
	return e
}

func (m *model) Sync(name string) api.Errno {
	if e := m.refuse(true, name); e != api.OK {
		return e
	}
	e := m.stroke()
	if f := m.seen()[name]; e == api.OK {
		f.states = []string{f.seen()}
	}
	return e
}

func (m *model) SyncNames() api.Errno {
	if m.off {
		return api.ErrDiskOff
	}
	e := m.stroke()
	if e == api.OK {
		m.names = []map[string]*bytesModel{m.seen()}
	}
	return e
}

func (m *model) Rename(from, to string) api.Errno {
	if e := m.refuse(true, from, to); e != api.OK {
		return e
	}
	e := m.stroke()
	if from != to {
		names := maps.Clone(m.seen())
		names[to] = names[from]
		delete(names, from)
		m.then(names)
	}
	return e
}

func (m *model) Remove(name string) api.Errno {
	if e := m.refuse(true, name); e != api.OK {
		return e
	}
	e := m.stroke()
	names := maps.Clone(m.seen())
	delete(names, name)
	m.then(names)
	return e
}

func (m *model) Plan(p api.Plan) {
	if !m.off {
		m.plan, m.now = p, 0
	}
}

func (m *model) Crash(picks []int) []api.FileBytes {
	at := func(states int) int {
		p := 0
		if len(picks) > 0 {
			p, picks = picks[0], picks[1:]
		}
		if p %= states; p < 0 {
			p += states
		}
		return p
	}
	names := m.names[at(len(m.names))]
	var img []api.FileBytes
	for _, n := range slices.Sorted(maps.Keys(names)) {
		states := names[n].states
		img = append(img, api.FileBytes{Name: n, Data: []byte(states[at(len(states))])})
	}
	return img
}

// step makes one drawn call at both.
func step(r *rand.Rand, d *disk.Disk, m *model) (api.Errno, api.Errno) {
	names := []string{"a", "b", "c", "c.new", "d", "A", ""}
	name := func() string { return names[min(r.Intn(6)*r.Intn(6)/3, 6)] }
	n, to := name(), name()
	switch r.Intn(16) {
	case 0, 1, 2, 3, 4:
		b := make([]byte, r.Intn(5))
		for i := range b {
			b[i] = byte('a' + r.Intn(26))
		}
		return d.Append(n, b), m.Append(n, b)
	case 5, 6:
		k := r.Intn(8) - 1
		return d.Cut(n, k), m.Cut(n, k)
	case 7, 8:
		return d.Sync(n), m.Sync(n)
	case 9, 10:
		return d.SyncNames(), m.SyncNames()
	case 11, 12:
		return d.Rename(n, to), m.Rename(n, to)
	case 13, 14:
		return d.Remove(n), m.Remove(n)
	}
	p := api.Plan{Off: r.Intn(40) - 1, FullFrom: r.Intn(12) - 1, FullTo: r.Intn(12) - 1}
	d.Plan(p)
	m.Plan(p)
	return api.OK, api.OK
}

// same: whether the disk tells what the model tells.
func same(d *disk.Disk, m *model) bool {
	if d.Strokes() != m.strokes || d.Room() != m.room {
		return false
	}
	list, e := d.List()
	if m.off {
		return len(list) == 0 && e == api.ErrDiskOff
	}
	if e != api.OK || !slices.Equal(list, slices.Sorted(maps.Keys(m.seen()))) {
		return false
	}
	for name, f := range m.seen() {
		b, e := d.Read(name)
		n, g := d.Size(name)
		if e != api.OK || g != api.OK || string(b) != f.seen() || n != len(b) {
			return false
		}
	}
	return true
}

func drawPicks(r *rand.Rand) []int {
	picks := make([]int, r.Intn(6))
	for i := range picks {
		switch r.Intn(5) {
		case 0:
			picks[i] = -1 - r.Intn(9)
		case 1:
			picks[i] = []int{math.MinInt, math.MaxInt, math.MinInt + 1, 1 << 40}[r.Intn(4)]
		default:
			picks[i] = r.Intn(12)
		}
	}
	return picks
}

// P4.3 to P4.14, R4: drawn calls, plans and picks: a disk answers what the model answers, and is at every time what the model is.
func TestModel(t *testing.T) {
	r := rand.New(rand.NewSource(4))
	for range 1500 {
		room := r.Intn(30)
		d, m := open(t, room), newModel(room)
		for i := range 60 {
			got, want := step(r, d, m)
			if got != want {
				t.Fatalf("call %d: %d, want %d", i, got, want)
			}
			if !same(d, m) {
				t.Fatalf("behind call %d the disk is not what it should be", i)
			}
			for range 4 {
				picks := drawPicks(r)
				img := d.Crash(picks)
				if got, want := told(img), told(m.Crash(picks)); got != want {
					t.Fatalf("behind call %d: Crash(%v) = %q, want %q", i, picks, got, want)
				}
				crash(t, load(t, img, api.MaxRoom), told(img), drawPicks(r)...)
			}
		}
	}
}

// P4.12: what is safe by name and bytes, and is appended to alone, begins every image of that file.
func TestSafeStays(t *testing.T) {
	r := rand.New(rand.NewSource(12))
	for range 300 {
		d := load(t, image("keep=me safe="), 400)
		safe := map[string]string{"keep": "me", "safe": ""}
		for range 40 {
			n := []string{"keep", "safe"}[r.Intn(2)]
			switch r.Intn(6) {
			case 0:
				ok(t, d.Sync(n))
				b, _ := d.Read(n)
				safe[n] = string(b)
			case 1:
				ok(t, d.Append("other", []byte("12")), d.Rename("other", "third"), d.Cut("third", 1))
			case 2:
				ok(t, d.Append("third", nil), d.Remove("third"), d.SyncNames())
			default:
				ok(t, d.Append(n, []byte("xyz")[:r.Intn(4)]))
			}
			for _, img := range [][]api.FileBytes{d.Crash(nil), d.Crash(drawPicks(r))} {
				for n, s := range safe {
					i := slices.IndexFunc(img, func(f api.FileBytes) bool { return f.Name == n })
					if i < 0 || !strings.HasPrefix(string(img[i].Data), s) {
						t.Fatalf("%s=%s is lost: %s", n, s, told(img))
					}
				}
			}
		}
	}
}
