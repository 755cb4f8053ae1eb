package journal_test

import (
	"slices"
	"testing"

	"tally/api"
	"tally/journal"
)

// spoil overwrites parts, their list, and the spare room behind each end.
func spoil(l [][]byte) {
	l = l[:cap(l)]
	for i := range l {
		b := l[i][:cap(l[i])]
		for k := range b {
			b[k] = '!'
		}
		l[i] = []byte("spoilt")
	}
}

func spoilAll(all [][][]byte) {
	all = all[:cap(all)]
	for i := range all {
		spoil(all[i])
		all[i] = nil
	}
}

// P5.7, R2: what is handed in is not kept.
func TestHandedInIsNotKept(t *testing.T) {
	d := load(t, nil, wide)
	j := open(t, d, "j")
	for i, call := range []func([][]byte) api.Errno{j.Add, j.Add, j.Checkpoint, j.Add} {
		l := parts("one", "two", "three", "")
		ok(t, call(l[:2]))
		spoil(l)
		want := []string{"[one two]", "[one two] [one two]", "[one two]", "[one two] [one two]"}[i]
		if got := told(j.All()); got != want {
			t.Errorf("call %d: %s, want %s", i, got, want)
		}
		if got := told(open(t, d, "j").All()); got != want {
			t.Errorf("call %d, opened: %s, want %s", i, got, want)
		}
	}
}

// P5.7, R2: what is handed in is not changed, its spare room neither, whatever the answer.
func TestHandedInIsNotChanged(t *testing.T) {
	d := load(t, nil, 185)
	j := open(t, d, "j")
	room := []byte("0123456789")
	l := [][]byte{room[:3], room[2:4], room[5:5], []byte("behind")}
	answers := []api.Errno{j.Add(l[:3]), j.Checkpoint(l[:3]), j.Add(l[:2]), j.Add(l[:2]), j.Add(l[:2]), j.Add(l[:2])}
	d.Plan(api.Plan{Off: 2})
	answers = append(answers, j.Checkpoint(l[:1]), j.Add(l[:1]))
	want := []api.Errno{api.OK, api.OK, api.OK, api.OK, api.OK, api.ErrDiskFull, api.ErrDiskOff, api.ErrJournalOff}
	if !slices.Equal(answers, want) {
		t.Errorf("answers %v, want %v", answers, want)
	}
	if string(room) != "0123456789" || told([][][]byte{l}) != "[012 23  behind]" {
		t.Errorf("changed: %s, %s", room, told([][][]byte{l}))
	}
}

// P5.7, R2: what is answered is new memory: of another answer, of the journal, of the disk, of another part of the same answer.
func TestAnswersAreNew(t *testing.T) {
	d, j := over(t, append(record(1, parts("a", "bcd")), record(2, parts("", "e"))...))
	want := "[a bcd] [ e]"
	for i := range 4 {
		one, two := j.All(), j.All()
		spoilAll(one)
		if told(two) != want {
			t.Fatalf("two answers share memory: %s, want %s", told(two), want)
		}
		for _, l := range two {
			for k := range l {
				l[k] = append(l[k], "!!!!"...)
			}
		}
		for k := range two {
			two[k] = append(two[k], parts("!")...)
		}
		if told(two) != []string{"[a!!!! bcd!!!! !] [!!!! e!!!! !]", "[a!!!! bcd!!!! !] [!!!! e!!!! !] [f!!!! !]", "[a!!!! bcd!!!! !] [!!!! e!!!! !] [f!!!! !] [f!!!! !]", "[s!!!! !]"}[i] {
			t.Fatalf("lists of one answer share memory: %s", told(two))
		}
		spoilAll(two)
		if told(j.All()) != want || told(open(t, d, "j").All()) != want {
			t.Fatalf("an answer reaches the journal: %s, want %s", told(j.All()), want)
		}
		if i == 2 {
			ok(t, j.Checkpoint(parts("s")))
			want = "[s]"
		} else {
			ok(t, j.Add(parts("f")))
			want += " [f]"
		}
	}
}

// P5.7: journals of other names on one disk have nothing in common, though one name begins with the other.
func TestOtherNames(t *testing.T) {
	d := load(t, nil, wide)
	names := []string{"j", "j.", "j.ne", "j.news", "k", "j-new"}
	var l []*journal.Journal
	for _, name := range names {
		l = append(l, open(t, d, name))
	}
	for range 3 {
		for i, j := range l {
			ok(t, j.Add(parts(names[i])))
		}
		for i, j := range l {
			if i%2 == 0 {
				ok(t, j.Checkpoint(parts("all", names[i])))
			}
		}
	}
	for i, j := range l {
		want := "[" + names[i] + "] [" + names[i] + "] [" + names[i] + "] len 3 next 4"
		if i%2 == 0 {
			want = "[all " + names[i] + "] len 1 next 7"
		}
		is(t, names[i], j, want)
		is(t, names[i]+", crashed", open(t, load(t, d.Crash(nil), wide), names[i]), want)
	}
	// What one has met, the other has to meet itself.
	d.Plan(api.Plan{Off: 1})
	errno(t, "j", l[0].Add(nil), api.ErrDiskOff)
	errno(t, "j again", l[0].Add(nil), api.ErrJournalOff)
	errno(t, "k", l[4].Add(nil), api.ErrDiskOff)
	errno(t, "k again", l[4].Checkpoint(nil), api.ErrJournalOff)
}
