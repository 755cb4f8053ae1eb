package lease_test

import (
	"math"
	"math/rand"
	"testing"

	"tally/api"
	"tally/lease"
)

// play: a lease and a plain one beside it.
type play struct {
	*testing.T
	*rand.Rand
	l                      *lease.Lease
	m                      *model
	runs, ends, lasts, old int // how often it came to these
}

func (p *play) same() {
	p.Helper()
	is(p.T, p.l, p.m.seen.Uint64(), told(p.m.patience), told(p.m.left), told(plus(p.m.patience, number(1))))
}

// epoch: one near what has been seen, or from anywhere.
func (p *play) epoch() uint64 {
	switch p.Intn(40) {
	case 0:
		return p.Uint64()
	case 1:
		return api.MaxNumber - uint64(p.Intn(20))
	}
	return p.l.Seen() + uint64(p.Intn(9)) - 4
}

func (p *play) tick() {
	p.Helper()
	phase := p.Intn(6) - 1
	if p.Intn(3) > 0 {
		phase = api.PhaseIdle
	}
	holds, free := p.Intn(3) == 0, p.Intn(4) > 0
	epoch, ends := p.l.Tick(phase, holds, free)
	wantEpoch, wantEnds := p.m.tick(phase, holds, free)
	if epoch != wantEpoch || ends != wantEnds {
		p.Fatalf("Tick(%d, %v, %v): %d, %v, want %d, %v", phase, holds, free, epoch, ends, wantEpoch, wantEnds)
	}
	if epoch > 0 {
		p.runs++
	}
	if ends {
		p.ends++
	}
	if epoch == 0 && p.l.Seen() >= api.MaxNumber {
		p.lasts++
	}
}

func (p *play) step() {
	p.Helper()
	switch p.Intn(12) {
	case 0:
		epoch, prepare, taken := p.epoch(), p.Intn(2) == 0, p.Intn(4) == 0
		if epoch < p.l.Seen() {
			p.old++
		}
		p.l.Heard(epoch, prepare, taken)
		p.m.heard(epoch, prepare, taken)
	case 1:
		p.l.Begun()
		p.m.since = number(0)
	case 2:
		p.l.Done()
		p.m.quiet = p.m.since
	case 3:
		if p.Intn(6) == 0 {
			p.l.Rest()
			p.m.left = p.m.patience
		}
	default:
		p.tick()
	}
	p.same()
}

// P11.1 to P11.5, P11.7: drawn calls, of all numbers, held against a plain telling of the chapter.
func TestDrawn(t *testing.T) {
	r := rand.New(rand.NewSource(11))
	sum := play{}
	odd := []int{math.MinInt, math.MinInt + 1, -8, -1, 0, 1, 2, 3, 7, 1 << 40, math.MaxInt - 1, math.MaxInt}
	any := func(small int) int {
		if r.Intn(4) == 0 {
			return odd[r.Intn(len(odd))]
		}
		return r.Intn(small)
	}
	for range 3000 {
		place, copies, most := any(8), any(8), any(40)
		seen := uint64(r.Intn(20))
		if r.Intn(5) == 0 {
			seen = api.MaxNumber - uint64(r.Intn(30))
		}
		if r.Intn(20) == 0 {
			seen = math.MaxUint64 - uint64(r.Intn(3))
		}
		p := play{T: t, Rand: r, l: lease.New(place, copies, most, seen), m: newModel(place, copies, most, seen)}
		p.same()
		for range r.Intn(200) {
			p.step()
		}
		sum.runs, sum.ends, sum.lasts, sum.old = sum.runs+p.runs, sum.ends+p.ends, sum.lasts+p.lasts, sum.old+p.old
	}
	if sum.runs < 1000 || sum.ends < 1000 || sum.lasts < 1000 || sum.old < 1000 {
		t.Errorf("little has been seen: %d runs, %d ends, %d at the end of the epochs, %d old", sum.runs, sum.ends, sum.lasts, sum.old)
	}
}
