package pace_test

import (
	"testing"

	"tally/api"
	"tally/pace"
)

func open(t *testing.T, most int) *pace.Pace {
	t.Helper()
	p, e := pace.New(most)
	if e != api.OK || p == nil {
		t.Fatalf("New(%d): %v, %d", most, p, e)
	}
	return p
}

func waits(t *testing.T, what string, p *pace.Pace, want int) {
	t.Helper()
	if got := p.Wait(); got != want {
		t.Errorf("%s: Wait %d, want %d", what, got, want)
	}
}

// row: what so many Ticks answer, a letter each: T for true, f for false.
func row(p *pace.Pace, n int) string {
	var out []byte
	for range n {
		if p.Tick() {
			out = append(out, 'T')
		} else {
			out = append(out, 'f')
		}
	}
	return string(out)
}

func ticks(t *testing.T, what string, p *pace.Pace, want string) {
	t.Helper()
	if got := row(p, len(want)); got != want {
		t.Errorf("%s: Ticks %s, want %s", what, got, want)
	}
}

// model: a pace as the chapter tells it, in two numbers.
type model struct{ most, left, gap int }

func (m *model) reset() { m.left, m.gap = 0, 1 }

func (m *model) tick() bool {
	if m.left > 1 {
		m.left--
		return false
	}
	m.left = m.gap
	m.gap *= 2
	if m.gap > m.most {
		m.gap = m.most
	}
	return true
}
