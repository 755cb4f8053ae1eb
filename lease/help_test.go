package lease_test

import (
	"math"
	"math/big"
	"testing"

	"tally/api"
	"tally/lease"
)

// one: the examples' lease: place 1 among 3, most 10, nothing seen.
func one() *lease.Lease { return lease.New(1, 3, 10, 0) }

// is: what a lease tells of itself.
func is(t *testing.T, l *lease.Lease, seen uint64, patience, left, span int) {
	t.Helper()
	if l.Seen() != seen || l.Patience() != patience || l.Left() != left || l.Span() != span {
		t.Fatalf("seen %d, patience %d, left %d, span %d; want %d, %d, %d, %d", l.Seen(), l.Patience(), l.Left(), l.Span(), seen, patience, left, span)
	}
}

// stands ticks one that stands by and is free, and holds its epochs against those that are wanted.
func stands(t *testing.T, l *lease.Lease, want ...uint64) {
	t.Helper()
	for i, w := range want {
		if epoch, ends := l.Tick(api.PhaseIdle, false, true); epoch != w || ends {
			t.Fatalf("tick %d: %d, %v; want %d", i+1, epoch, ends, w)
		}
	}
}

// holds ticks one that holds.
func holds(t *testing.T, l *lease.Lease, want ...bool) {
	t.Helper()
	for i, w := range want {
		if epoch, ends := l.Tick(api.PhaseReady, true, true); epoch != 0 || ends != w {
			t.Fatalf("tick %d: %d, %v; want %v", i+1, epoch, ends, w)
		}
	}
}

// nothing: so many ticks without an epoch, and then that one.
func nothing(ticks int, then ...uint64) []uint64 { return append(make([]uint64, ticks), then...) }

// model: a second, plain telling of the chapter, in numbers that have no end.
type model struct {
	place, copies, most, seen, patience, left, since, quiet *big.Int
}

func number(n int) *big.Int { return big.NewInt(int64(n)) }

func epochOf(n uint64) *big.Int { return new(big.Int).SetUint64(n) }

func plus(a, b *big.Int) *big.Int { return new(big.Int).Add(a, b) }

func least(a, b *big.Int) *big.Int {
	if a.Cmp(b) < 0 {
		return a
	}
	return b
}

// told: no number that a lease tells is above the greatest int.
func told(n *big.Int) int { return int(least(n, number(math.MaxInt)).Int64()) }

func newModel(place, copies, most int, seen uint64) *model {
	if copies < 1 {
		copies = 1
	}
	if most < api.FirstPatience {
		most = api.FirstPatience
	}
	p := new(big.Int).Mod(number(place), number(copies))
	return &model{
		place: p, copies: number(copies), most: number(most), seen: epochOf(seen),
		patience: number(api.FirstPatience), left: least(plus(number(api.FirstPatience), p), number(math.MaxInt)),
		since: number(0), quiet: number(0),
	}
}

func (m *model) heard(epoch uint64, prepare, taken bool) {
	e := epochOf(epoch)
	if taken {
		m.left = m.patience
	}
	if prepare && e.Cmp(m.seen) >= 0 {
		m.left = m.patience
	}
	if e.Cmp(m.seen) > 0 {
		m.seen = e
	}
}

// next: the step from what is seen to the next one that is place modulo copies.
func (m *model) next() *big.Int {
	step := new(big.Int).Sub(m.place, m.seen)
	step.Sub(step, number(1))
	step.Mod(step, m.copies)
	return plus(plus(m.seen, step), number(1))
}

func (m *model) tick(phase int, holds, free bool) (uint64, bool) {
	m.since, m.quiet = plus(m.since, number(1)), plus(m.quiet, number(1))
	switch {
	case holds:
		return 0, m.quiet.Cmp(m.patience) >= 0
	case phase != api.PhaseIdle:
		return 0, false
	}
	if m.left.Sign() > 0 {
		m.left = plus(m.left, number(-1))
	}
	if m.left.Sign() != 0 || !free {
		return 0, false
	}
	next := m.next()
	if next.Cmp(epochOf(api.MaxNumber)) > 0 {
		m.left = m.patience
		return 0, false
	}
	m.seen = next
	m.patience = least(plus(m.patience, m.patience), m.most)
	m.left = m.patience
	return next.Uint64(), false
}
