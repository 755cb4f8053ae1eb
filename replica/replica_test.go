package replica_test

import (
	"math"
	"testing"

	"tally/api"
	"tally/replica"
)

// The chapter's examples, one behind the other.
func TestExamples(t *testing.T) {
	r := replica.New([]byte("v"))
	hears(t, r, prepare(5), promise(5, api.Tag{}, "v"), "C")
	hears(t, r, prepare(3), refuse(3, 5), "")
	hears(t, r, prepare(5), promise(5, api.Tag{}, "v"), "")
	hears(t, r, write(5, 1, "w", 3), wrote(5, 1), "TC")
	is(t, "behind the write", r, `5 (5, 1) "w" wait 3`)
	hears(t, r, prepare(7), refuse(7, 5), "")
	hears(t, r, write(5, 1, "x", 2), wrote(5, 1), "T")
	is(t, "behind it again", r, `5 (5, 1) "w" wait 2`)
	r.Tick()
	r.Tick()
	is(t, "two ticks later", r, `5 (5, 1) "w" wait 0`)
	hears(t, r, prepare(7), promise(7, api.Tag{Epoch: 5, Seq: 1}, "w"), "C")
	hears(t, r, write(5, 2, "x", 3), refuse(5, 7), "")
	hears(t, r, beat(8, 4, 5), beaten(8, 4), "TC")
	is(t, "behind the beat", r, `8 (5, 1) "w" wait 5`)
	if r.Own(8) || !r.Own(9) {
		t.Errorf("Own(8) or Own(9)")
	}
	hears(t, r, write(9, 0, "y", 0), wrote(9, 0), "TC")
	hears(t, r, write(9, 0, "z", 0), wrote(9, 0), "T")
	is(t, "at last", r, `9 (9, 0) "y" wait 0`)
}

// P9.1: a new one has promised nothing, has the tag (0, 0) and that value, and keeps nobody out.
func TestNew(t *testing.T) {
	is(t, "v", replica.New([]byte("v")), `0 (0, 0) "v" wait 0`)
	is(t, "any bytes", replica.New([]byte{0, 0xff, 'a'}), `0 (0, 0) "\x00\xffa" wait 0`)
	is(t, "nil", replica.New(nil), `0 (0, 0) "" wait 0`)
	is(t, "no bytes", replica.New([]byte{}), `0 (0, 0) "" wait 0`)
	long := make([]byte, 5*api.MaxValue)
	if got := replica.New(long).Stored().Value; string(got) != string(long) {
		t.Errorf("more than a book's bytes: %d of %d", len(got), len(long))
	}
}

// P9.1: one that is loaded has what was kept, also numbers that no message has and a tag above what is promised; a span below 0 counts as 0.
func TestLoad(t *testing.T) {
	for _, c := range []struct {
		s    api.Stored
		span int
		want string
	}{
		{api.Stored{}, 0, `0 (0, 0) "" wait 0`},
		{api.Stored{Promised: 4, Tag: api.Tag{Epoch: 3, Seq: 2}, Value: []byte("v")}, 2, `4 (3, 2) "v" wait 2`},
		{api.Stored{Promised: 1, Tag: api.Tag{Epoch: 8, Seq: 9}, Value: []byte("w")}, 1, `1 (8, 9) "w" wait 1`},
		{api.Stored{Promised: 4}, -1, `4 (0, 0) "" wait 0`},
		{api.Stored{Tag: api.Tag{Seq: 7}}, math.MinInt, `0 (0, 7) "" wait 0`},
		{api.Stored{Promised: math.MaxUint64, Tag: api.Tag{Epoch: math.MaxUint64, Seq: math.MaxUint64}}, math.MaxInt,
			`18446744073709551615 (18446744073709551615, 18446744073709551615) "" wait 9223372036854775807`},
	} {
		is(t, "loaded", replica.Load(c.s, c.span), c.want)
	}
}

// P9.1: Stored and Wait change nothing, however often they are asked.
func TestToldAgain(t *testing.T) {
	r := replica.Load(api.Stored{Promised: 4, Tag: api.Tag{Epoch: 3, Seq: 2}, Value: []byte("v")}, 2)
	for range 5 {
		is(t, "again", r, `4 (3, 2) "v" wait 2`)
	}
}

// P9.2: an epoch above what is promised is promised, whether or not others are kept out; no other one; nothing else changes.
func TestOwn(t *testing.T) {
	for _, c := range []struct {
		epoch uint64
		want  bool
		state string
	}{
		{0, false, `5 (3, 2) "v" wait 2`},
		{4, false, `5 (3, 2) "v" wait 2`},
		{5, false, `5 (3, 2) "v" wait 2`},
		{6, true, `6 (3, 2) "v" wait 2`},
		{api.MaxNumber, true, `1099511627776 (3, 2) "v" wait 2`},
		{math.MaxUint64, true, `18446744073709551615 (3, 2) "v" wait 2`},
	} {
		r := replica.Load(api.Stored{Promised: 5, Tag: api.Tag{Epoch: 3, Seq: 2}, Value: []byte("v")}, 2)
		if got := r.Own(c.epoch); got != c.want {
			t.Errorf("Own(%d): %v, want %v", c.epoch, got, c.want)
		}
		is(t, "behind Own", r, c.state)
		if r.Own(c.epoch) {
			t.Errorf("Own(%d) again: true", c.epoch)
		}
		is(t, "behind Own again", r, c.state)
	}
	r := replica.New(nil)
	if r.Own(0) || !r.Own(1) {
		t.Errorf("a new one: Own(0) or Own(1)")
	}
	is(t, "a new one", r, `1 (0, 0) "" wait 0`)
	hears(t, r, prepare(1), promise(1, api.Tag{}, ""), "")
	hears(t, r, prepare(0), refuse(0, 1), "")
}

// P9.3: a tick takes one of wait, but none below 0, and nothing else.
func TestTick(t *testing.T) {
	r := replica.Load(api.Stored{Promised: 4, Tag: api.Tag{Epoch: 3, Seq: 2}, Value: []byte("v")}, 3)
	for _, want := range []string{`4 (3, 2) "v" wait 2`, `4 (3, 2) "v" wait 1`, `4 (3, 2) "v" wait 0`, `4 (3, 2) "v" wait 0`, `4 (3, 2) "v" wait 0`} {
		r.Tick()
		is(t, "a tick", r, want)
	}
	hears(t, r, beat(4, 1, 1), beaten(4, 1), "T")
	is(t, "no tick too many is owed", r, `4 (3, 2) "v" wait 1`)
	r = replica.Load(api.Stored{}, math.MaxInt)
	r.Tick()
	if r.Wait() != math.MaxInt-1 {
		t.Errorf("Wait %d", r.Wait())
	}
}
