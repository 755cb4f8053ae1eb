package lease

import (
	"math"
	"testing"

	"tally/api"
)

// Nobody ticks to the greatest int: these tests lay the numbers down inside, so they stand in the package.

// P11.7: since and quiet stay at the greatest int, and a holder's end stays told.
func TestCountsStay(t *testing.T) {
	l := New(0, 3, 10, 0)
	l.since, l.quiet = math.MaxInt-1, math.MaxInt-2
	for range 4 {
		if _, ends := l.Tick(api.PhaseReady, true, true); !ends {
			t.Fatalf("since %d, quiet %d: it goes on", l.since, l.quiet)
		}
	}
	if l.since != math.MaxInt || l.quiet != math.MaxInt {
		t.Errorf("since %d, quiet %d", l.since, l.quiet)
	}
	l.Begun()
	l.Tick(api.PhaseIdle, false, false)
	l.Done()
	if l.since != 1 || l.quiet != 1 {
		t.Errorf("a new round: since %d, quiet %d", l.since, l.quiet)
	}
}

// P11.4, P11.7: patience doubles up to the greatest int, span and left stay there.
func TestGreatestPatience(t *testing.T) {
	l := New(0, 1, math.MaxInt, 0)
	was := l.Patience()
	for i := range 70 {
		l.left = 1
		if epoch, ends := l.Tick(api.PhaseIdle, false, true); epoch != uint64(i+1) || ends {
			t.Fatalf("%d, %v", epoch, ends)
		}
		want := math.MaxInt
		if was < math.MaxInt/2 {
			want = 2 * was
		}
		if l.Patience() != want || l.Left() != want || l.Span() < want || l.Span()-1 > want {
			t.Fatalf("patience %d, left %d, span %d, want %d", l.Patience(), l.Left(), l.Span(), want)
		}
		was = want
	}
	if l.Patience() != math.MaxInt || l.Left() != math.MaxInt || l.Span() != math.MaxInt {
		t.Errorf("in the end: patience %d, left %d, span %d", l.Patience(), l.Left(), l.Span())
	}
	l.since, l.quiet = math.MaxInt, math.MaxInt-2
	if _, ends := l.Tick(api.PhaseReady, true, true); ends {
		t.Error("it ends ahead of its patience")
	}
	if _, ends := l.Tick(api.PhaseReady, true, true); !ends {
		t.Error("it does not end")
	}
}
