package net_test

import (
	"math/rand"
	"slices"
	"strconv"
	"strings"
	"testing"

	"tally/net"
)

// model: what a net is to hold, each message as told tells it, with room and loss beside.
type model struct {
	room int
	row  []string
	lost uint64
}

func (m *model) state() string {
	return strings.Join(append(slices.Clone(m.row), "lost", strconv.FormatUint(m.lost, 10)), " ")
}

func (m *model) has(i int) bool { return i >= 0 && i < len(m.row) }

func (m *model) send(to int, s string) bool {
	if len(m.row) == m.room {
		m.lost++
		return false
	}
	m.row = append(m.row, strconv.Itoa(to)+s)
	return true
}

func (m *model) double(i int) bool {
	if !m.has(i) || len(m.row) == m.room {
		return false
	}
	m.row = append(m.row, m.row[i])
	return true
}

func (m *model) out(i int) (string, bool) {
	if !m.has(i) {
		return "", false
	}
	s := m.row[i]
	m.row = append(slices.Clone(m.row[:i]), m.row[i+1:]...)
	return s, true
}

// step makes one drawn call on both, and holds the answers against each other.
func step(t *testing.T, r *rand.Rand, n *net.Net, m *model, name string) {
	i := r.Intn(m.room+3) - 1
	switch r.Intn(7) {
	case 0, 1, 2:
		if got, want := n.Send(i, []byte(name)), m.send(i, name); got != want {
			t.Fatalf("Send: %v, want %v", got, want)
		}
	case 3:
		if got, want := n.Double(i), m.double(i); got != want {
			t.Fatalf("Double(%d): %v, want %v", i, got, want)
		}
	case 4:
		_, want := m.out(i)
		if got := n.Drop(i); got != want {
			t.Fatalf("Drop(%d): %v, want %v", i, got, want)
		}
	default:
		want, there := m.out(i)
		f, ok := n.Take(i)
		if !there {
			nothing(t, "Take", f, ok)
		} else {
			flight(t, "Take", f, ok, want)
		}
	}
}

// P6.2 to P6.5, P6.7: drawn calls: behind each the row holds every message sent and every double that has not come out, once, in the order of sending and doubling.
func TestDrawnCalls(t *testing.T) {
	r := rand.New(rand.NewSource(6))
	for range 200 {
		room := 1 + r.Intn(8)
		n, m := open(t, room), &model{room: room}
		for k := range 100 {
			step(t, r, n, m, "m"+strconv.Itoa(k))
			if got, want := state(n), m.state(); got != want {
				t.Fatalf("room %d, call %d: %s, want %s", room, k, got, want)
			}
		}
	}
}
