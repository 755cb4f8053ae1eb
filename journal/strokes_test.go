package journal_test

import (
	"fmt"
	"math"
	"slices"
	"strings"
	"testing"

	"tally/api"
	"tally/disk"
)

// P5.2 to P5.4: the chapter's first examples, byte by byte.
func TestExamples(t *testing.T) {
	d := load(t, nil, wide)
	j := open(t, d, "j")
	is(t, "new", j, "len 0 next 1")
	strokes(t, d, "Add of a", j.Add, parts("a"), api.OK, 3)
	strokes(t, d, "Add of b, cd", j.Add, parts("b", "cd"), api.OK, 2)
	is(t, "two", j, "[a] [b cd] len 2 next 3")
	both := append(record(1, parts("a")), record(2, parts("b", "cd"))...)
	if len(both) != 67 {
		t.Errorf("%d bytes", len(both))
	}
	holds(t, d, "j", both)
	strokes(t, d, "Checkpoint of s", j.Checkpoint, parts("s"), api.OK, 4)
	is(t, "checkpoint", j, "[s] len 1 next 4")
	holds(t, d, "j", record(3, parts("s")))
	strokes(t, d, "Add of none", j.Add, nil, api.OK, 2)
	is(t, "of none", j, "[s] [] len 2 next 5")
	holds(t, d, "j", append(record(3, parts("s")), record(4, nil)...))
	strokes(t, d, "Add of 65", j.Add, make([][]byte, 65), api.ErrJournalLong, 0)
	is(t, "opened again", open(t, d, "j"), "[s] [] len 2 next 5")
	if files(t, d) != "j="+string(record(3, parts("s")))+string(record(4, nil)) {
		t.Errorf("files %q", files(t, d))
	}
}

// P5.2: behind OK it is safe, byte and name, whatever the picks.
func TestOKIsSafe(t *testing.T) {
	d := load(t, nil, wide)
	j := open(t, d, "j")
	for i := range 12 {
		if i%5 == 4 {
			ok(t, j.Checkpoint(parts("c", fmt.Sprint(i))))
		} else {
			ok(t, j.Add(parts(fmt.Sprint(i))))
		}
		want := state(j)
		for _, picks := range [][]int{nil, {1}, {-1, -1}, {2, 3, 4}} {
			is(t, "behind OK", open(t, load(t, d.Crash(picks), wide), "j"), want)
		}
	}
}

// P5.2: SyncNames stands behind every Add till one, or a Checkpoint, is answered OK, and only till then.
func TestSyncNamesTillOK(t *testing.T) {
	d := load(t, image("j", records(1, "a")), wide)
	j := open(t, d, "j")
	d.Plan(api.Plan{FullFrom: 1, FullTo: 2})
	strokes(t, d, "full", j.Add, parts("b"), api.ErrDiskFull, 1)
	strokes(t, d, "full", j.Checkpoint, parts("b"), api.ErrDiskFull, 1)
	strokes(t, d, "too long", j.Add, make([][]byte, 65), api.ErrJournalLong, 0)
	strokes(t, d, "the first OK", j.Add, parts("b"), api.OK, 3)
	strokes(t, d, "the second", j.Add, parts("c"), api.OK, 2)
	strokes(t, d, "a Checkpoint", j.Checkpoint, parts("d"), api.OK, 4)
	strokes(t, d, "behind it", j.Add, parts("e"), api.OK, 2)
	j = open(t, d, "j")
	strokes(t, d, "opened again", j.Add, parts("f"), api.OK, 3)
	j = open(t, d, "j")
	strokes(t, d, "a Checkpoint at first", j.Checkpoint, parts("g"), api.OK, 4)
	strokes(t, d, "an Add behind it", j.Add, parts("h"), api.OK, 2)
	is(t, "at last", j, "[g] [h] len 2 next 9")
}

// P5.2: the name of a file that was there, but is not safe, is made safe by the first Add.
func TestNameMadeSafe(t *testing.T) {
	d := load(t, nil, wide)
	ok(t, d.Append("j", records(1, "a")))
	j := open(t, d, "j")
	ok(t, j.Add(parts("b")))
	is(t, "crashed", open(t, load(t, d.Crash(nil), wide), "j"), "[a] [b] len 2 next 3")
}

// P5.2, P5.3: records of MaxRecord bytes, and of one more, by one part and by many; parts up to MaxParts.
func TestLong(t *testing.T) {
	const beside = 18 + 12
	many := func(n int) [][]byte {
		l := make([][]byte, 64)
		for i := range l {
			l[i] = make([]byte, 16380) // its length takes two bytes
		}
		l[63] = make([]byte, n)
		return l
	}
	last := api.MaxRecord - beside - 63*16382 - 3
	for _, c := range []struct {
		what string
		l    [][]byte
		want api.Errno
	}{
		{"one part", sized(api.MaxRecord - beside - 3), api.OK},
		{"one part, one byte more", sized(api.MaxRecord - beside - 2), api.ErrJournalLong},
		{"a part of MaxRecord", sized(api.MaxRecord), api.ErrJournalLong},
		{"a part above MaxRecord", sized(api.MaxRecord + 1), api.ErrJournalLong},
		{"a part far above", sized(1 << 27), api.ErrJournalLong},
		{"64 parts", many(last), api.OK},
		{"64 parts, one byte more", many(last + 1), api.ErrJournalLong},
		{"64 parts far above", slices.Repeat(sized(1<<26), 64), api.ErrJournalLong},
		{"64 of none", make([][]byte, 64), api.OK},
		{"65 of none", make([][]byte, 65), api.ErrJournalLong},
		{"2^20 of none", make([][]byte, 1<<20), api.ErrJournalLong},
	} {
		d := load(t, image("j", records(1, "a")), 1<<26)
		j := open(t, d, "j")
		wantAdd, wantCheckpoint := 3, 4
		if c.want != api.OK {
			wantAdd, wantCheckpoint = 0, 0
		}
		strokes(t, d, "Add of "+c.what, j.Add, c.l, c.want, wantAdd)
		if c.want == api.OK {
			holds(t, d, "j", append(records(1, "a"), record(2, c.l)...))
			if k := open(t, d, "j"); k.Len() != 2 || told(k.All()) != told(j.All()) {
				t.Errorf("%s: opened: %d transactions", c.what, k.Len())
			}
		}
		strokes(t, d, "Checkpoint of "+c.what, j.Checkpoint, c.l, c.want, wantCheckpoint)
		if c.want == api.OK {
			holds(t, d, "j", record(3, c.l))
		} else {
			is(t, c.what, j, "[a] len 1 next 2")
		}
	}
}

// P5.2, P5.3, R5: no number above MaxNumber is written, by an Add or a Checkpoint.
func TestMaxNumber(t *testing.T) {
	const top = api.MaxNumber
	d, j := over(t, records(top-1, "a"))
	ok(t, j.Add(parts("b")))
	is(t, "the last", j, "[a] [b] len 2 next 1099511627777")
	strokes(t, d, "Add", j.Add, nil, api.ErrJournalLong, 0)
	strokes(t, d, "Checkpoint", j.Checkpoint, nil, api.ErrJournalLong, 0)
	is(t, "opened", open(t, d, "j"), "[a] [b] len 2 next 1099511627777")
	d, j = over(t, append(records(top-1, "a"), 1, 2, 3))
	ok(t, j.Checkpoint(parts("c")))
	is(t, "the last by Checkpoint", j, "[c] len 1 next 1099511627777")
	strokes(t, d, "Checkpoint", j.Checkpoint, nil, api.ErrJournalLong, 0)
	// Torn stays as it was, and nothing is cut.
	b := append(records(top, "a"), 1, 2, 3)
	d, j = over(t, b)
	strokes(t, d, "Add", j.Add, nil, api.ErrJournalLong, 0)
	is(t, "torn", j, "[a] len 1 next 1099511627777 torn")
	holds(t, d, "j", b)
}

// P5.2, P5.3, R4: ErrJournalOff behind an ErrDiskOff ahead of all; ErrJournalLong ahead of the disk's errors.
func TestOrderOfErrors(t *testing.T) {
	long := make([][]byte, 65)
	for i := range 4 {
		d, j := over(t, append(records(1, "a"), 9))
		d.Plan(api.Plan{Off: 1})
		errno(t, "the power goes off", d.SyncNames(), api.ErrDiskOff)
		first, then := j.Add, j.Checkpoint
		if i%2 == 1 {
			first, then = then, first
		}
		strokes(t, d, "long, the power off", first, long, api.ErrJournalLong, 0)
		strokes(t, d, "long, the power off", then, long, api.ErrJournalLong, 0)
		strokes(t, d, "the power off", first, parts("b"), api.ErrDiskOff, 0)
		for range 2 {
			strokes(t, d, "behind it", then, parts("b"), api.ErrJournalOff, 0)
			strokes(t, d, "behind it", first, parts("b"), api.ErrJournalOff, 0)
			strokes(t, d, "behind it, long", then, long, api.ErrJournalOff, 0)
			strokes(t, d, "behind it, long", first, sized(1<<21), api.ErrJournalOff, 0)
		}
		is(t, "behind it", j, "[a] len 1 next 2 torn")
	}
	d, j := over(t, records(api.MaxNumber, "a"))
	d.Plan(api.Plan{Off: 1})
	errno(t, "the power goes off", d.SyncNames(), api.ErrDiskOff)
	errno(t, "no more numbers, the power off", j.Add(nil), api.ErrJournalLong)
	errno(t, "no more numbers, the power off", j.Checkpoint(nil), api.ErrJournalLong)
}

// P5.2: another error than ErrDiskOff does not end a journal: with room it goes on.
func TestFull(t *testing.T) {
	d := load(t, []api.FileBytes{{Name: "big", Data: make([]byte, 40)}}, 100)
	j := open(t, d, "j")
	strokes(t, d, "the first", j.Add, parts("a"), api.OK, 3)
	for range 3 {
		strokes(t, d, "full", j.Add, parts("b"), api.ErrDiskFull, 1)
		strokes(t, d, "full", j.Checkpoint, parts("b"), api.ErrDiskFull, 1)
		is(t, "full", j, "[a] len 1 next 2")
		holds(t, d, "j", records(1, "a"))
	}
	ok(t, d.Remove("big"))
	strokes(t, d, "with room", j.Add, parts("b"), api.OK, 2)
	strokes(t, d, "with room", j.Checkpoint, parts("c"), api.OK, 4)
	is(t, "with room", j, "[c] len 1 next 4")
	// What the old file takes stands beside the new one till the Rename.
	strokes(t, d, "just room", j.Checkpoint, sized(100-32-31), api.OK, 4)
	strokes(t, d, "no room beside", j.Checkpoint, parts("xy"), api.ErrDiskFull, 1)
}

// P5.2, P5.4: what is torn is cut off first; if then the Append is refused, it isn't torn all the same, and is not cut again.
func TestTorn(t *testing.T) {
	d := load(t, image("j", append(records(1, "a"), make([]byte, 20)...)), 60)
	j := open(t, d, "j")
	is(t, "torn", j, "[a] len 1 next 2 torn")
	strokes(t, d, "too long", j.Add, make([][]byte, 65), api.ErrJournalLong, 0)
	is(t, "too long", j, "[a] len 1 next 2 torn")
	strokes(t, d, "a full Checkpoint", j.Checkpoint, parts("b"), api.ErrDiskFull, 1)
	is(t, "a full Checkpoint", j, "[a] len 1 next 2 torn")
	strokes(t, d, "a full Add", j.Add, parts("b"), api.ErrDiskFull, 2)
	is(t, "a full Add", j, "[a] len 1 next 2")
	holds(t, d, "j", records(1, "a"))
	strokes(t, d, "again", j.Add, parts("b"), api.ErrDiskFull, 1)
	// The cut is not safe: the journal that is opened over a crash may find what it cut.
	is(t, "the cut lost", open(t, load(t, d.Crash(nil), 99), "j"), "[a] len 1 next 2 torn")
	is(t, "the cut kept", open(t, load(t, d.Crash([]int{0, 1}), 99), "j"), "[a] len 1 next 2")
}

// P5.2: torn at every length, in the room that the cut makes: one stroke more, and the file is a row of whole records again.
func TestTornAtEveryLength(t *testing.T) {
	l := []string{"a", "", "some more bytes", "z"}
	all := records(4, l...)
	ends := []int{0}
	for i := range l {
		ends = append(ends, len(records(4, l[:i+1]...)))
	}
	for n := range len(all) + 1 {
		d, j := over(t, all[:n])
		whole := 0
		for whole < len(l) && ends[whole+1] <= n {
			whole++
		}
		next, more := uint64(4+whole), 3
		if whole == 0 {
			next = 1
		}
		if n > ends[whole] {
			more = 4
		}
		if j.Torn() != (n > ends[whole]) || j.Len() != whole || j.Next() != next {
			t.Fatalf("%d bytes: %s", n, state(j))
		}
		strokes(t, d, "Add", j.Add, parts("new"), api.OK, more)
		holds(t, d, "j", append(slices.Clone(all[:ends[whole]]), record(next, parts("new"))...))
		want := state(j)
		is(t, "crashed", open(t, load(t, d.Crash(nil), wide), "j"), want)
		if j.Torn() || j.Len() != whole+1 || j.Next() != next+1 {
			t.Fatalf("%d bytes, Add: %s", n, want)
		}
		strokes(t, d, "Add", j.Add, parts("next"), api.OK, 2)
	}
}

// P5.3: a second file that is there is removed first, and its room is free then; a Checkpoint mends what is torn without a Cut.
func TestSecondFile(t *testing.T) {
	img := []api.FileBytes{{Name: "j", Data: append(records(1, "a"), 7)}, {Name: "j.new", Data: records(1, "old", "older")}}
	d := load(t, img, 33+70)
	j := open(t, d, "j")
	is(t, "ahead", j, "[a] len 1 next 2 torn")
	strokes(t, d, "Checkpoint", j.Checkpoint, parts("new"), api.OK, 5)
	is(t, "behind", j, "[new] len 1 next 3")
	if want := "j=" + string(record(2, parts("new"))); files(t, d) != want || listed(d.Crash(nil)) != want {
		t.Errorf("files %q", files(t, d))
	}
	strokes(t, d, "Add", j.Add, parts("b"), api.OK, 2)
	// A Checkpoint that is refused as full has removed the second file all the same.
	d = load(t, img, 33+70)
	j = open(t, d, "j")
	strokes(t, d, "full", j.Checkpoint, sized(60), api.ErrDiskFull, 2)
	is(t, "full", j, "[a] len 1 next 2 torn")
	if files(t, d) != listed(img[:1]) {
		t.Errorf("files %q", files(t, d))
	}
	strokes(t, d, "full again", j.Checkpoint, sized(60), api.ErrDiskFull, 1)
	strokes(t, d, "with room", j.Checkpoint, sized(33), api.OK, 4)
	// An empty one is there, too.
	d = load(t, image("j.new", nil), wide)
	j = open(t, d, "j")
	strokes(t, d, "an empty one", j.Checkpoint, parts("x"), api.OK, 5)
	is(t, "an empty one", j, "[x] len 1 next 2")
}

// P5.2, P5.3: the disk's errors go through: files as many as a disk has.
func TestManyFiles(t *testing.T) {
	var img []api.FileBytes
	for i := range api.MaxDisk {
		img = append(img, api.FileBytes{Name: fmt.Sprintf("f%02d", i)})
	}
	d := load(t, img, wide)
	j := open(t, d, "j")
	strokes(t, d, "Add", j.Add, parts("a"), api.ErrDiskName, 0)
	strokes(t, d, "Checkpoint", j.Checkpoint, parts("a"), api.ErrDiskName, 0)
	is(t, "refused", j, "len 0 next 1")
	ok(t, d.Remove("f00"))
	strokes(t, d, "Add", j.Add, parts("a"), api.OK, 3)
	strokes(t, d, "Checkpoint", j.Checkpoint, parts("b"), api.ErrDiskName, 0)
	is(t, "refused", j, "[a] len 1 next 2")
	ok(t, d.Remove("f01"))
	strokes(t, d, "Checkpoint", j.Checkpoint, parts("b"), api.OK, 4)
	is(t, "done", j, "[b] len 1 next 3")
}

// P5.2, P5.3: which strokes, in which order: for every plan a disk is left as by the chapter's row of calls made by hand.
func TestRowsOfStrokes(t *testing.T) {
	a, junk := records(1, "a"), []byte("junk")
	b := record(2, parts("b"))
	add := []func(*disk.Disk) api.Errno{
		func(d *disk.Disk) api.Errno { return d.Cut("j", len(a)) },
		func(d *disk.Disk) api.Errno { return d.Append("j", b) },
		func(d *disk.Disk) api.Errno { return d.Sync("j") },
		func(d *disk.Disk) api.Errno { return d.SyncNames() },
	}
	checkpoint := []func(*disk.Disk) api.Errno{
		func(d *disk.Disk) api.Errno { return d.Remove("j.new") },
		func(d *disk.Disk) api.Errno { return d.Append("j.new", b) },
		func(d *disk.Disk) api.Errno { return d.Sync("j.new") },
		func(d *disk.Disk) api.Errno { return d.Rename("j.new", "j") },
		func(d *disk.Disk) api.Errno { return d.SyncNames() },
	}
	img := []api.FileBytes{{Name: "j", Data: append(slices.Clone(a), junk...)}, {Name: "j.new", Data: junk}}
	for i, row := range [][]func(*disk.Disk) api.Errno{add, checkpoint} {
		for off := range 7 {
			for full := range 4 {
				d, twin := load(t, img, wide), load(t, img, wide)
				j := open(t, d, "j")
				// A change of names and one of bytes that are not safe, so that what makes safe is seen.
				ok(t, d.Append("k", junk), twin.Append("k", junk))
				p := api.Plan{Off: off, FullFrom: full, FullTo: full}
				d.Plan(p)
				twin.Plan(p)
				got, want := api.OK, api.OK
				if i == 0 {
					got = j.Add(parts("b"))
				} else {
					got = j.Checkpoint(parts("b"))
				}
				for k := 0; k < len(row) && want == api.OK; k++ {
					want = row[k](twin)
				}
				if got != want || d.Strokes() != twin.Strokes() {
					t.Fatalf("row %d, plan %v: %d in %d strokes, want %d in %d", i, p, got, d.Strokes(), want, twin.Strokes())
				}
				for names := range 6 {
					for units := range 40 {
						picks := []int{names, units, units, units / 8}
						if got, want := listed(d.Crash(picks)), listed(twin.Crash(picks)); got != want {
							t.Fatalf("row %d, plan %v, picks %v: left %q, want %q", i, p, picks, got, want)
						}
					}
				}
			}
		}
	}
}

// P5.4: Torn as Open found it, till a Cut or a Checkpoint is answered OK; transactions as they were wherever a call is refused.
func TestRefusedChangesNothing(t *testing.T) {
	for off := 1; off <= 5; off++ {
		for i := range 2 {
			d := load(t, []api.FileBytes{{Name: "j", Data: append(records(3, "a", "b"), 0)}, {Name: "j.new"}}, wide)
			j := open(t, d, "j")
			d.Plan(api.Plan{Off: off})
			call, left, want := j.Add, 4, "[a] [b] len 2 next 5"
			if i == 1 {
				call, left = j.Checkpoint, 5
			}
			if off > left {
				continue
			}
			if i == 1 || off == 1 {
				want += " torn"
			}
			errno(t, "the power off", call(parts("c")), api.ErrDiskOff)
			is(t, fmt.Sprintf("call %d, off at %d", i, off), j, want)
			errno(t, "behind it", call(parts("c")), api.ErrJournalOff)
			is(t, fmt.Sprintf("call %d, off at %d, again", i, off), j, want)
		}
	}
}

// P5.7, R1: what is handed in may be anything.
func TestAnything(t *testing.T) {
	d := load(t, nil, 1000)
	j := open(t, d, "j")
	d.Plan(api.Plan{Off: math.MinInt, FullFrom: math.MinInt, FullTo: math.MaxInt})
	for _, l := range [][][]byte{nil, {}, {nil}, {{}}, {nil, {}, nil}, parts(strings.Repeat("\xff", 200)), sized(1000)} {
		e := j.Add(l)
		f := j.Checkpoint(l)
		if e != f {
			t.Errorf("%d, %d", e, f)
		}
	}
	is(t, "at last", j, "["+strings.Repeat("\xff", 200)+"] len 1 next 13")
}
