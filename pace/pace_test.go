package pace_test

import (
	"math"
	"math/rand"
	"strings"
	"testing"

	"tally/api"
	"tally/pace"
)

// P7.1: a cap that is not 1 to MaxCap is refused, and there is no pace.
func TestNewRefuses(t *testing.T) {
	for _, most := range []int{0, -1, -64, api.MaxCap + 1, 1 << 40, math.MinInt, math.MaxInt} {
		if p, e := pace.New(most); p != nil || e != api.ErrPaceCap {
			t.Errorf("New(%d): %v, %d, want none, %d", most, p, e, api.ErrPaceCap)
		}
	}
}

// P7.1: each cap from 1 to MaxCap makes a pace with left 0 and gap 1.
func TestNew(t *testing.T) {
	for most := 1; most <= api.MaxCap; most++ {
		p := open(t, most)
		waits(t, "new", p, 0)
		ticks(t, "the first", p, "T")
		waits(t, "behind the first", p, 1)
	}
}

// P7.2: the chapter's example, cap 5.
func TestTick(t *testing.T) {
	p := open(t, 5)
	ticks(t, "cap 5", p, "TTfTfffTffffTffffTffffT")
}

// P7.2, P7.3: Wait tells left behind each Tick.
func TestWait(t *testing.T) {
	p := open(t, 5)
	for i, want := range []int{1, 2, 1, 4, 3, 2, 1, 5, 4, 3, 2, 1, 5, 4, 3, 2, 1, 5} {
		p.Tick()
		if got := p.Wait(); got != want {
			t.Errorf("behind tick %d: Wait %d, want %d", i+1, got, want)
		}
	}
}

// P7.2: a gap is at most the cap: at caps that are, and are not, a power of two.
func TestCaps(t *testing.T) {
	for _, c := range []struct {
		most int
		want string
	}{
		{1, "TTTTTTTT"},
		{2, "TTfTfTfTfT"},
		{3, "TTfTffTffTffT"},
		{4, "TTfTfffTfffTfffT"},
		{7, "TTfTfffTffffffTffffffT"},
		{8, "TTfTfffTfffffffTfffffffT"},
	} {
		ticks(t, "cap", open(t, c.most), c.want)
	}
}

// P7.3: Wait changes nothing, however often it is asked.
func TestWaitChangesNothing(t *testing.T) {
	p := open(t, 5)
	want := "TTfTfffTffff"
	for i := range want {
		before := p.Wait()
		for range 7 {
			waits(t, "again", p, before)
		}
		ticks(t, "between", p, want[i:i+1])
	}
}

// P7.3: behind a Reset a pace is as at first, wherever it stood.
func TestReset(t *testing.T) {
	for n := range 40 {
		p := open(t, 5)
		row(p, n)
		p.Reset()
		waits(t, "reset", p, 0)
		p.Reset()
		waits(t, "reset twice", p, 0)
		ticks(t, "anew", p, "TTfTfffTffffTffffT")
	}
}

// P7.4: the times come behind 1, 2, 4, 8 .. ticks up to the cap, then behind the cap each; the first Tick is one.
func TestTimes(t *testing.T) {
	for most := 1; most <= api.MaxCap; most++ {
		p := open(t, most)
		ticks(t, "the first", p, "T")
		for gap, n := 1, 0; n < 20; n++ {
			ticks(t, "a gap", p, strings.Repeat("f", gap-1)+"T")
			gap = min(2*gap, most)
		}
	}
}

// P7.4: from wherever, never more than cap - 1 in a row answer false, and n Ticks answer true at least n / cap times.
func TestNeverTooSeldom(t *testing.T) {
	for most := 1; most <= api.MaxCap; most++ {
		for ahead := range 2 * most {
			p := open(t, most)
			row(p, ahead)
			got := row(p, 5*most)
			if strings.Contains(got, strings.Repeat("f", most)) {
				t.Fatalf("cap %d, behind %d: %s", most, ahead, got)
			}
			for n := range len(got) + 1 {
				if strings.Count(got[:n], "T") < n/most {
					t.Fatalf("cap %d, behind %d: %s", most, ahead, got[:n])
				}
			}
		}
	}
}

// P7.4: two paces have nothing in common, of one cap or of two.
func TestTwo(t *testing.T) {
	one, other, third := open(t, 5), open(t, 5), open(t, 2)
	ticks(t, "one", one, "TTfTf")
	waits(t, "other", other, 0)
	ticks(t, "third", third, "TTfTfTf")
	ticks(t, "other", other, "TTf")
	other.Reset()
	ticks(t, "one, further", one, "ffTffffT")
	third.Reset()
	ticks(t, "other, anew", other, "TTfTfffTffffT")
	ticks(t, "third, anew", third, "TTfTfT")
}

// P7.2, P7.3, P7.4: drawn calls on several paces, held against the chapter's two numbers.
func TestDrawn(t *testing.T) {
	r := rand.New(rand.NewSource(7))
	for range 200 {
		var paces [3]*pace.Pace
		var models [3]model
		for i := range paces {
			most := 1 + r.Intn(api.MaxCap)
			paces[i] = open(t, most)
			models[i] = model{most: most, gap: 1}
		}
		for range 500 {
			i := r.Intn(len(paces))
			p, m := paces[i], &models[i]
			if r.Intn(60) == 0 {
				p.Reset()
				m.reset()
			} else if got, want := p.Tick(), m.tick(); got != want {
				t.Fatalf("cap %d: Tick %v, want %v", m.most, got, want)
			}
			if p.Wait() != m.left {
				t.Fatalf("cap %d: Wait %d, want %d", m.most, p.Wait(), m.left)
			}
		}
	}
}
