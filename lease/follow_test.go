package lease_test

import (
	"math/rand"
	"testing"

	"tally/api"
	"tally/lease"
)

// among: leases of all places of one number of copies, and who has answered which epoch.
type among struct {
	*testing.T
	*rand.Rand
	leases []*lease.Lease
	most   []int
	told   []uint64 // the greatest epoch that each was told or answered
	taken  map[uint64]int
}

func newAmong(t *testing.T, r *rand.Rand, copies int) *among {
	a := &among{T: t, Rand: r, taken: map[uint64]int{}}
	for place := range copies {
		most, seen := api.FirstPatience+r.Intn(20), uint64(r.Intn(9))
		// Places that are alike modulo the copies are one: the offset changes nothing.
		a.leases = append(a.leases, lease.New(place+copies*(r.Intn(5)-2), copies, most, seen))
		a.most = append(a.most, most)
		a.told = append(a.told, seen)
	}
	return a
}

func (a *among) tick(place int) {
	a.Helper()
	epoch, _ := a.leases[place].Tick(a.Intn(2)*a.Intn(4), a.Intn(4) == 0, a.Intn(4) > 0)
	if epoch == 0 {
		return
	}
	if epoch <= a.told[place] || int(epoch%uint64(len(a.leases))) != place {
		a.Fatalf("place %d of %d was told %d and answers %d", place, len(a.leases), a.told[place], epoch)
	}
	if other, there := a.taken[epoch]; there {
		a.Fatalf("epoch %d is of place %d and of %d", epoch, other, place)
	}
	a.taken[epoch], a.told[place] = place, epoch
}

// tell: one hears of an epoch of another, or of some number.
func (a *among) tell(place int) {
	epoch := a.told[a.Intn(len(a.told))] + uint64(a.Intn(3))
	a.leases[place].Heard(epoch, a.Intn(2) == 0, a.Intn(8) == 0)
	a.told[place] = max(a.told[place], epoch)
}

// P11.6: epochs rise, are the lease's own, and no two leases answer one; patience never falls and stays in its bounds.
func TestEpochsAreOnes(t *testing.T) {
	r := rand.New(rand.NewSource(116))
	epochs := 0
	for range 300 {
		a := newAmong(t, r, 1+r.Intn(7))
		for range 400 {
			place := r.Intn(len(a.leases))
			l := a.leases[place]
			was := l.Patience()
			switch r.Intn(20) {
			case 0:
				a.tell(place)
			case 1:
				l.Rest()
			case 2:
				l.Begun()
			case 3:
				l.Done()
			default:
				a.tick(place)
			}
			if now := l.Patience(); now < was || now < api.FirstPatience || now > a.most[place] {
				t.Fatalf("patience was %d, is %d, most %d", was, now, a.most[place])
			}
		}
		epochs += len(a.taken)
	}
	if epochs < 2000 {
		t.Errorf("only %d epochs", epochs)
	}
}

// P11.6: ticked idle and free it answers an epoch at the tick at which left comes to 0, whatever was ahead.
func TestRunsInTime(t *testing.T) {
	r := rand.New(rand.NewSource(117))
	for range 2000 {
		copies := 1 + r.Intn(7)
		l := lease.New(r.Intn(copies), copies, r.Intn(40), uint64(r.Intn(50)))
		for range r.Intn(60) {
			l.Tick(r.Intn(2)*r.Intn(4), r.Intn(4) == 0, r.Intn(2) == 0)
			if r.Intn(9) == 0 {
				l.Heard(uint64(r.Intn(60)), r.Intn(2) == 0, r.Intn(2) == 0)
			}
		}
		for left := max(l.Left(), 1); left > 0; left-- {
			epoch, ends := l.Tick(api.PhaseIdle, false, true)
			if ends || (epoch > 0) != (left == 1) {
				t.Fatalf("%d left: %d, %v", left, epoch, ends)
			}
		}
	}
}

// P11.6: a copy that has taken a beat of a round that is done keeps others out till the holder's end, as long as their ticks go by alike, whichever of the two ticks first.
func TestCopyOutlastsHolder(t *testing.T) {
	r := rand.New(rand.NewSource(118))
	held := 0
	for range 5000 {
		l := lease.New(r.Intn(3), 3, r.Intn(40), 0)
		for range r.Intn(80) {
			l.Tick(api.PhaseIdle, false, true)
		}
		held += rounds(t, r, l, 1+r.Intn(5))
	}
	if held < 30000 {
		t.Errorf("the holders held for %d ticks only", held)
	}
}

// rounds: that many rounds, of which some are done, and then none: how many ticks it held.
func rounds(t *testing.T, r *rand.Rand, l *lease.Lease, n int) (held int) {
	t.Helper()
	wait := 0
	first := r.Intn(2) == 0
	tick := func() bool {
		if first {
			wait = max(wait-1, 0)
		}
		_, ends := l.Tick(api.PhaseReady, true, true)
		held++
		if n == 0 && wait == 0 {
			t.Fatalf("patience %d: the copy lets others in, and holding has not ended ahead of it", l.Patience())
		}
		if !first {
			wait = max(wait-1, 0)
		}
		return ends
	}
	l.Begun()
	l.Done()
	for n > 0 {
		l.Begun()
		for range r.Intn(3) {
			if tick() {
				return held
			}
		}
		wait = l.Span() // the copy takes a beat of the round, any time behind its begin
		for range r.Intn(3) {
			if tick() {
				return held
			}
		}
		l.Done()
		n--
	}
	// Rounds that begin and are never done change nothing of it.
	for !tick() {
		if r.Intn(2) == 0 {
			l.Begun()
		}
	}
	return held
}

// P11.6: one more tick than patience is what it takes: the copy is just one tick behind the holder's end.
func TestSpanIsOneMore(t *testing.T) {
	l := one()
	l.Begun()
	l.Done()
	ticks := 1
	for {
		if _, ends := l.Tick(api.PhaseReady, true, true); ends {
			break
		}
		ticks++
	}
	if ticks != l.Patience() || l.Span() != ticks+1 {
		t.Errorf("held for %d ticks, patience %d, span %d", ticks, l.Patience(), l.Span())
	}
}

// P11.7: two leases have nothing in common.
func TestTwo(t *testing.T) {
	a, b := one(), one()
	b.Begun()
	b.Done()
	stands(t, a, nothing(4, 1)...)
	a.Heard(50, true, true)
	a.Begun()
	a.Done()
	is(t, b, 0, 4, 5, 5)
	holds(t, b, false, false, false, true)
	stands(t, b, nothing(4, 1)...)
	is(t, a, 50, 8, 8, 9)
	for range 7 {
		holds(t, a, false)
	}
	holds(t, a, true)
}
