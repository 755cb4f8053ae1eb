package lease_test

import (
	"math"
	"testing"

	"tally/api"
	"tally/lease"
)

// P11.1, P11.4, P11.5: the chapter's first example: patience doubles, up to the most.
func TestRuns(t *testing.T) {
	l := one()
	is(t, l, 0, 4, 5, 5)
	stands(t, l, 0, 0, 0, 0, 1)
	is(t, l, 1, 8, 8, 9)
	stands(t, l, nothing(7, 4)...)
	is(t, l, 4, 10, 10, 11)
	stands(t, l, nothing(9, 7)...)
	is(t, l, 7, 10, 10, 11)
}

// P11.4: the second example: while its own copy keeps somebody out it runs not, and then at once.
func TestNotFree(t *testing.T) {
	l := one()
	stands(t, l, 0, 0, 0, 0)
	for range 3 {
		if epoch, ends := l.Tick(api.PhaseIdle, false, false); epoch != 0 || ends {
			t.Fatalf("not free: %d, %v", epoch, ends)
		}
		is(t, l, 0, 4, 0, 5)
	}
	stands(t, l, 1)
	is(t, l, 1, 8, 8, 9)
}

// P11.4: what is left goes down though it is not free.
func TestNotFreeCountsDown(t *testing.T) {
	l := one()
	for left := 4; left >= 0; left-- {
		l.Tick(api.PhaseIdle, false, false)
		is(t, l, 0, 4, left, 5)
	}
}

// P11.2: the third example.
func TestHeardExample(t *testing.T) {
	l := one()
	l.Heard(5, true, false)
	is(t, l, 5, 4, 4, 5)
	l.Heard(4, true, false)
	is(t, l, 5, 4, 4, 5)
	l.Heard(9, false, false)
	is(t, l, 9, 4, 4, 5)
	l.Heard(3, false, true)
	is(t, l, 9, 4, 4, 5)
	stands(t, l, 0, 0, 0, 10)
}

// P11.2: what sets left, and what raises seen: each case by itself, of a lease that has seen 6 and has 2 left of 4.
func TestHeard(t *testing.T) {
	for _, c := range []struct {
		epoch          uint64
		prepare, taken bool
		seen           uint64
		left           int
	}{
		{5, false, false, 6, 2}, {6, false, false, 6, 2}, {7, false, false, 7, 2},
		{5, true, false, 6, 2}, {6, true, false, 6, 4}, {7, true, false, 7, 4},
		{5, false, true, 6, 4}, {6, false, true, 6, 4}, {7, false, true, 7, 4},
		{5, true, true, 6, 4}, {7, true, true, 7, 4}, {0, true, true, 6, 4},
		{0, false, false, 6, 2}, {math.MaxUint64, true, false, math.MaxUint64, 4},
	} {
		l := lease.New(0, 3, 10, 6)
		stands(t, l, 0, 0)
		l.Heard(c.epoch, c.prepare, c.taken)
		is(t, l, c.seen, 4, c.left, 5)
	}
}

// P11.2: of a lease that has left more than its patience (its place at the start), too.
func TestHeardBringsLeftDown(t *testing.T) {
	l := lease.New(6, 7, 10, 0)
	is(t, l, 0, 4, 10, 5)
	l.Heard(0, true, false)
	is(t, l, 0, 4, 4, 5)
}

// P11.4: the fourth example: when holding is at its end.
func TestHolds(t *testing.T) {
	l := one()
	l.Begun()
	l.Done()
	holds(t, l, false, false, false, true)

	l = one()
	l.Begun()
	holds(t, l, false, false)
	l.Done()
	holds(t, l, false, true, true)
}

// P11.3, P11.4: a round that has only begun does not keep a holder; one that is done counts from its begin.
func TestRounds(t *testing.T) {
	l := one()
	holds(t, l, false, false, false)
	l.Begun()
	holds(t, l, true)
	l.Done()
	holds(t, l, false, false, true)
	l.Begun()
	l.Begun()
	holds(t, l, true)
	l.Done()
	l.Done()
	holds(t, l, false, false, true, true)
}

// P11.3: Done without a new begin tells what has gone by since the old one.
func TestDoneTwice(t *testing.T) {
	l := one()
	l.Begun()
	holds(t, l, false)
	l.Done()
	holds(t, l, false, false)
	l.Done()
	holds(t, l, true)
}

// P11.4: since and quiet go on at every tick, whatever the phase.
func TestEveryTickCounts(t *testing.T) {
	for _, phase := range []int{api.PhaseIdle, api.PhasePreparing, api.PhaseWriting, api.PhaseReady, -1, 4, math.MinInt} {
		l := one()
		l.Begun()
		l.Done()
		l.Tick(phase, false, false)
		l.Tick(phase, false, false)
		holds(t, l, false, true)
		l.Begun()
		l.Tick(phase, false, false)
		l.Tick(phase, false, false)
		l.Tick(phase, false, false)
		l.Done()
		holds(t, l, true)
	}
}

// P11.4: a holder's patience is the doubled one of its epoch.
func TestHoldsWithDoubledPatience(t *testing.T) {
	l := one()
	stands(t, l, nothing(4, 1)...)
	l.Begun()
	l.Done()
	holds(t, l, false, false, false, false, false, false, false, true)
}

// P11.4: who holds does not count down nor run, in no phase, free or not.
func TestHoldsRunsNot(t *testing.T) {
	for _, phase := range []int{api.PhaseIdle, api.PhasePreparing, api.PhaseWriting, api.PhaseReady, 9} {
		for _, free := range []bool{false, true} {
			l := one()
			for i := range 20 {
				if epoch, ends := l.Tick(phase, true, free); epoch != 0 || ends != (i >= 3) {
					t.Fatalf("phase %d: %d, %v at tick %d", phase, epoch, ends, i+1)
				}
				is(t, l, 0, 4, 5, 5)
			}
		}
	}
}

// P11.4: who neither holds nor stands by does not count down, does not run, and nothing ends.
func TestOtherPhases(t *testing.T) {
	for _, phase := range []int{api.PhasePreparing, api.PhaseWriting, api.PhaseReady, -1, 4, math.MaxInt, math.MinInt} {
		for _, free := range []bool{false, true} {
			l := one()
			for range 20 {
				if epoch, ends := l.Tick(phase, false, free); epoch != 0 || ends {
					t.Fatalf("phase %d: %d, %v", phase, epoch, ends)
				}
				is(t, l, 0, 4, 5, 5)
			}
		}
	}
}

// P11.3: Rest leaves the patience, whatever was left.
func TestRest(t *testing.T) {
	l := one()
	l.Rest()
	is(t, l, 0, 4, 4, 5)
	stands(t, l, 0, 0)
	l.Rest()
	is(t, l, 0, 4, 4, 5)
	stands(t, l, 0, 0, 0, 1)
	stands(t, l, 0, 0, 0)
	l.Rest()
	is(t, l, 1, 8, 8, 9)
}

// P11.1: numbers that may not be are counted as others.
func TestNew(t *testing.T) {
	for _, c := range []struct {
		place, copies, most int
		left, patience      int // at first; behind the first epoch
		epoch               uint64
	}{
		{0, 3, 10, 4, 8, 3}, {1, 3, 10, 5, 8, 1}, {2, 3, 10, 6, 8, 2},
		{3, 3, 10, 4, 8, 3}, {5, 3, 10, 6, 8, 2}, {-1, 3, 10, 6, 8, 2}, {-3, 3, 10, 4, 8, 3}, {-4, 3, 10, 6, 8, 2}, {-5, 3, 10, 5, 8, 1},
		{0, 1, 10, 4, 8, 1}, {7, 1, 10, 4, 8, 1}, {7, 0, 10, 4, 8, 1}, {-7, -3, 10, 4, 8, 1}, {2, math.MinInt, 10, 4, 8, 1},
		{math.MinInt, 3, 10, 5, 8, 1}, {math.MaxInt, 7, 10, 4, 8, 7}, {math.MinInt, 1, 10, 4, 8, 1},
		{1, 3, 3, 5, 4, 1}, {1, 3, 4, 5, 4, 1}, {1, 3, 5, 5, 5, 1}, {1, 3, 7, 5, 7, 1}, {1, 3, 8, 5, 8, 1}, {1, 3, 9, 5, 8, 1},
		{1, 3, 0, 5, 4, 1}, {1, 3, -8, 5, 4, 1}, {1, 3, math.MinInt, 5, 4, 1}, {1, 3, math.MaxInt, 5, 8, 1},
	} {
		l := lease.New(c.place, c.copies, c.most, 0)
		is(t, l, 0, 4, c.left, 5)
		stands(t, l, nothing(c.left-1, c.epoch)...)
		is(t, l, c.epoch, c.patience, c.patience, c.patience+1)
	}
}

// P11.4: the next epoch is the least above seen that is place modulo copies.
func TestNextEpoch(t *testing.T) {
	for copies := range 8 {
		for place := range copies {
			for seen := range uint64(30) {
				want := seen + 1
				for want%uint64(copies) != uint64(place) {
					want++
				}
				l := lease.New(place, copies, 4, seen)
				stands(t, l, nothing(3+place, want)...)
				is(t, l, want, 4, 4, 5)
			}
		}
	}
}

// P11.4: the last epochs, and what is behind them: the lease waits its patience anew, and nothing else changes.
func TestLastEpoch(t *testing.T) {
	l := lease.New(1, 3, 10, api.MaxNumber)
	stands(t, l, 0, 0, 0, 0, 0)
	is(t, l, api.MaxNumber, 4, 4, 5)

	l = lease.New(1, 3, 10, api.MaxNumber-4) // MaxNumber is 1 modulo 3
	stands(t, l, nothing(4, api.MaxNumber-3)...)
	stands(t, l, nothing(7, api.MaxNumber)...)
	is(t, l, api.MaxNumber, 10, 10, 11)
	for range 3 {
		stands(t, l, nothing(10)...)
		is(t, l, api.MaxNumber, 10, 10, 11)
	}
	for _, c := range []struct {
		place, copies int
		seen, want    uint64
	}{
		{0, 3, api.MaxNumber - 2, api.MaxNumber - 1}, {0, 3, api.MaxNumber - 1, 0}, {2, 3, api.MaxNumber - 3, api.MaxNumber - 2}, {2, 3, api.MaxNumber - 1, 0},
		{0, 1, api.MaxNumber - 1, api.MaxNumber}, {0, 1, api.MaxNumber, 0}, {0, 1, api.MaxNumber + 1, 0},
		{0, 3, math.MaxUint64, 0}, {1, 3, math.MaxUint64 - 1, 0}, {0, 1, math.MaxUint64, 0},
		{0, math.MaxInt, 5, 0}, {0, math.MaxInt, api.MaxNumber - 1, 0}, {9, math.MaxInt, 5, 9}, {5, math.MaxInt, 5, 0}, {0, api.MaxNumber, 5, api.MaxNumber}, {0, api.MaxNumber + 1, 5, 0},
	} {
		l := lease.New(c.place, c.copies, 4, c.seen)
		stands(t, l, nothing(3+c.place, c.want)...)
		is(t, l, max(c.seen, c.want), 4, 4, 5)
	}
}

// P11.4: not free at the end of the epochs: nothing is left, till it is free; then it waits anew.
func TestLastEpochNotFree(t *testing.T) {
	l := lease.New(0, 3, 10, api.MaxNumber)
	for range 9 {
		l.Tick(api.PhaseIdle, false, false)
	}
	is(t, l, api.MaxNumber, 4, 0, 5)
	stands(t, l, 0)
	is(t, l, api.MaxNumber, 4, 4, 5)
}

// P11.7: no number leaves its type at New.
func TestGreatNumbers(t *testing.T) {
	for place, left := range map[int]int{
		-1: math.MaxInt, -2: math.MaxInt, -4: math.MaxInt, -5: math.MaxInt - 1,
		math.MaxInt - 1: math.MaxInt, math.MinInt: math.MaxInt, math.MinInt + 2: 5,
	} {
		l := lease.New(place, math.MaxInt, math.MaxInt, math.MaxUint64)
		is(t, l, math.MaxUint64, 4, left, 5)
		l.Heard(math.MaxUint64, true, true)
		stands(t, l, 0, 0, 0, 0)
		is(t, l, math.MaxUint64, 4, 4, 5)
	}
}
