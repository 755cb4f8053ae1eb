package journal_test

import (
	"bytes"
	"fmt"
	"math/rand"
	"slices"
	"testing"

	"tally/api"
	"tally/disk"
	"tally/journal"
)

// P5.5: the chapter's examples of crashes.
func TestCrashExamples(t *testing.T) {
	made := func(off int) (*disk.Disk, *journal.Journal) {
		d := load(t, nil, wide)
		j := open(t, d, "j")
		ok(t, j.Add(parts("a")))
		d.Plan(api.Plan{Off: off})
		return d, j
	}
	d, j := made(1)
	errno(t, "Add", j.Add(parts("b", "cd")), api.ErrDiskOff)
	is(t, "all kept", open(t, load(t, d.Crash([]int{0, 35}), wide), "j"), "[a] [b cd] len 2 next 3")
	is(t, "nothing kept", open(t, load(t, d.Crash(nil), wide), "j"), "[a] len 1 next 2")
	d = load(t, d.Crash([]int{0, 34}), wide)
	j = open(t, d, "j")
	is(t, "34 bytes kept", j, "[a] len 1 next 2 torn")
	strokes(t, d, "Add of z", j.Add, parts("z"), api.OK, 4)
	is(t, "Add of z", j, "[a] [z] len 2 next 3")
	holds(t, d, "j", records(1, "a", "z"))

	d, j = made(5)
	ok(t, j.Add(parts("b", "cd")))
	errno(t, "Checkpoint", j.Checkpoint(parts("s")), api.ErrDiskOff)
	d = load(t, d.Crash([]int{1, 0}), wide)
	j = open(t, d, "j")
	is(t, "the Rename lost", j, "[a] [b cd] len 2 next 3")
	holds(t, d, "j.new", record(3, parts("s")))
	strokes(t, d, "the next", j.Checkpoint, parts("s"), api.OK, 5)
	is(t, "the next", j, "[s] len 1 next 4")
}

// P5.5: each kind of call, from each kind of beginning, with the power off at each of its strokes, and each way in which it may leave the disk.
func TestCrashEverywhere(t *testing.T) {
	a, junk := records(7, "a", "bc"), []byte("\xa7junk")
	for _, img := range [][]api.FileBytes{
		nil, image("j", nil), image("j", a), image("j", append(slices.Clone(a), junk...)), image("j.new", junk), image("j.new", a),
		{{Name: "j", Data: a}, {Name: "j.new", Data: records(1, "old")}},
		{{Name: "j", Data: append(slices.Clone(a), record(10, nil)...)}, {Name: "j.new"}},
	} {
		for i := range 4 {
			for off := range 7 {
				d := load(t, img, wide)
				j := open(t, d, "j")
				if i >= 2 {
					ok(t, j.Add(parts("first")))
				}
				ahead, next := j.All(), j.Next()
				d.Plan(api.Plan{Off: off})
				l, behind := parts("s", "t"), append(slices.Clone(ahead), parts("s", "t"))
				e := api.OK
				if i%2 == 0 {
					e = j.Add(l)
				} else {
					e, behind = j.Checkpoint(l), [][][]byte{l}
				}
				if e != api.OK && e != api.ErrDiskOff {
					t.Fatalf("call %d, off at %d: %d", i, off, e)
				}
				for names := range 5 {
					for units := range 45 {
						left := d.Crash([]int{names, units, units})
						what := fmt.Sprintf("call %d, off at %d, picks %d, %d", i, off, names, units)
						oneOf(t, what, left, ahead, behind, next, e == api.OK)
					}
				}
			}
		}
	}
}

// oneOf: over what is left stand the transactions of ahead, or of behind; of behind, if the call was answered OK; opened again over a crash of that the same.
func oneOf(t *testing.T, what string, left []api.FileBytes, ahead, behind [][][]byte, next uint64, done bool) {
	t.Helper()
	d := load(t, left, wide)
	j := open(t, d, "j")
	asAhead := same(j.All(), ahead) && j.Next() == next
	asBehind := same(j.All(), behind) && j.Next() == next+1
	if !asBehind && (done || !asAhead) {
		t.Fatalf("%s: %s, done %v, next ahead %d", what, state(j), done, next)
	}
	is(t, what+", opened again", open(t, load(t, d.Crash([]int{-1, -1, -1}), wide), "j"), state(j))
}

// model: a journal by the chapter's words, on a disk of its own: what it tells of its file it makes of its transactions.
type model struct {
	disk            *disk.Disk
	all             [][][]byte
	next            uint64
	torn, done, off bool
}

func (m *model) good() int {
	n := 0
	for i, l := range m.all {
		n += len(record(m.next-uint64(len(m.all)-i), l))
	}
	return n
}

func (m *model) refuse(l [][]byte) api.Errno {
	if m.off {
		return api.ErrJournalOff
	}
	if len(l) > 64 || len(record(m.next, l)) > 1<<20 || m.next > 1<<40 {
		return api.ErrJournalLong
	}
	return api.OK
}

func (m *model) add(l [][]byte) api.Errno {
	e := m.refuse(l)
	if e == api.OK && m.torn {
		e = m.disk.Cut("j", m.good())
		m.torn = e != api.OK
	}
	if e == api.OK {
		e = m.disk.Append("j", record(m.next, l))
	}
	if e == api.OK {
		e = m.disk.Sync("j")
	}
	if e == api.OK && !m.done {
		e = m.disk.SyncNames()
	}
	if e == api.OK {
		m.all, m.next, m.done = append(m.all, l), m.next+1, true
	}
	m.off = m.off || e == api.ErrDiskOff
	return e
}

func (m *model) checkpoint(l [][]byte) api.Errno {
	e := m.refuse(l)
	if _, none := m.disk.Size("j.new"); e == api.OK && none == api.OK {
		e = m.disk.Remove("j.new")
	}
	if e == api.OK {
		e = m.disk.Append("j.new", record(m.next, l))
	}
	if e == api.OK {
		e = m.disk.Sync("j.new")
	}
	if e == api.OK {
		e = m.disk.Rename("j.new", "j")
	}
	if e == api.OK {
		e = m.disk.SyncNames()
	}
	if e == api.OK {
		m.all, m.next, m.done, m.torn = [][][]byte{l}, m.next+1, true, false
	}
	m.off = m.off || e == api.ErrDiskOff
	return e
}

func drawParts(r *rand.Rand) [][]byte {
	l := make([][]byte, r.Intn(4))
	if r.Intn(30) == 0 {
		l = make([][]byte, 63+r.Intn(4))
	}
	for i := range l {
		l[i] = make([]byte, []int{r.Intn(8), r.Intn(8), 120 + r.Intn(16)}[r.Intn(3)])
		r.Read(l[i])
	}
	return l
}

func drawPicks(r *rand.Rand) []int {
	picks := make([]int, r.Intn(5))
	for i := range picks {
		picks[i] = []int{r.Intn(4), r.Intn(400), -1 - r.Intn(4)}[r.Intn(3)]
	}
	return picks
}

// run: drawn calls of one journal, up to a crash; it answers what the crash leaves.
func run(t *testing.T, r *rand.Rand, img []api.FileBytes, room int) []api.FileBytes {
	t.Helper()
	d := load(t, img, room)
	j := open(t, d, "j")
	m := &model{disk: load(t, img, room), all: j.All(), next: j.Next()}
	b, _ := d.Read("j")
	m.torn = len(b) > m.good()
	if r.Intn(2) == 0 {
		p := api.Plan{Off: r.Intn(30), FullFrom: r.Intn(9), FullTo: r.Intn(9)}
		d.Plan(p)
		m.disk.Plan(p)
	}
	for i := range r.Intn(12) {
		ahead, next, torn := m.all, m.next, m.torn
		l := drawParts(r)
		got, want := api.OK, api.OK
		behind := append(slices.Clone(ahead), l)
		if r.Intn(3) > 0 {
			got, want = j.Add(l), m.add(l)
		} else {
			got, want = j.Checkpoint(l), m.checkpoint(l)
			behind = [][][]byte{l}
		}
		if got != want || !same(j.All(), m.all) || j.Len() != len(m.all) || j.Next() != m.next || j.Torn() != m.torn || d.Strokes() != m.disk.Strokes() {
			t.Fatalf("call %d: %d, want %d; torn %v, want %v, ahead %v", i, got, want, j.Torn(), m.torn, torn)
		}
		for range 5 {
			picks := drawPicks(r)
			left := d.Crash(picks)
			if listed(left) != listed(m.disk.Crash(picks)) {
				t.Fatalf("call %d: %d: a crash leaves another disk", i, got)
			}
			if got != api.ErrJournalOff {
				oneOf(t, fmt.Sprintf("call %d: %d", i, got), left, ahead, behind, next, got == api.OK)
			}
		}
	}
	return d.Crash(drawPicks(r))
}

// P5.2 to P5.5: drawn calls and plans, crash upon crash: a journal answers and tells what the chapter says, does to its disk what it says, and what a crash leaves is what stood ahead of the call or behind it.
func TestModel(t *testing.T) {
	r := rand.New(rand.NewSource(5))
	for range 400 {
		var img []api.FileBytes
		room := []int{wide, 300 + r.Intn(900)}[r.Intn(2)]
		for range 6 {
			img = run(t, r, img, room)
			used := 0
			for _, f := range img {
				used += len(f.Data)
			}
			room = max(room, used)
		}
	}
}

// P5.5: of a file cut anywhere, or spoilt anywhere, a row of the first transactions is told, never another one.
func TestSpoilt(t *testing.T) {
	r := rand.New(rand.NewSource(55))
	d := load(t, nil, wide)
	j := open(t, d, "j")
	for range 6 {
		ok(t, j.Add(drawParts(r)))
	}
	all, whole := j.All(), []byte{}
	whole, _ = d.Read("j")
	for range 3000 {
		b := bytes.Clone(whole[:r.Intn(len(whole)+1)])
		for k := r.Intn(3); k > 0 && len(b) > 0; k-- {
			b[r.Intn(len(b))] = byte(r.Int())
		}
		_, k := over(t, b)
		if n := k.Len(); n > len(all) || !same(k.All(), all[:n]) || k.Next() != uint64(n)+1 {
			t.Fatalf("%d transactions of %d bytes", n, len(b))
		}
	}
}
