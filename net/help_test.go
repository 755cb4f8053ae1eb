package net_test

import (
	"strconv"
	"strings"
	"testing"

	"tally/api"
	"tally/net"
)

func open(t *testing.T, flight int) *net.Net {
	t.Helper()
	n, e := net.New(flight)
	if e != api.OK || n == nil {
		t.Fatalf("New(%d): %v, %d", flight, n, e)
	}
	return n
}

// sent: a net with room for so many, and with these messages, each to the node of its place.
func sent(t *testing.T, flight int, l ...string) *net.Net {
	t.Helper()
	n := open(t, flight)
	for i, s := range l {
		yes(t, "Send "+s, n.Send(i, []byte(s)))
	}
	return n
}

func yes(t *testing.T, what string, ok bool) {
	t.Helper()
	if !ok {
		t.Errorf("%s: false, want true", what)
	}
}

func no(t *testing.T, what string, ok bool) {
	t.Helper()
	if ok {
		t.Errorf("%s: true, want false", what)
	}
}

func told(f api.Flight) string {
	return strconv.Itoa(f.To) + string(f.Bytes)
}

// state: all that a net tells of itself: 1a 2b lost 3.
func state(n *net.Net) string {
	var out []string
	for i := range n.Len() {
		f, ok := n.Look(i)
		if !ok {
			return "no place " + strconv.Itoa(i)
		}
		out = append(out, told(f))
	}
	return strings.Join(append(out, "lost", strconv.FormatUint(n.Lost(), 10)), " ")
}

func is(t *testing.T, what string, n *net.Net, want string) {
	t.Helper()
	if got := state(n); got != want {
		t.Errorf("%s: %.200s, want %.200s", what, got, want)
	}
}

// flight holds an answer of Look or Take against a message.
func flight(t *testing.T, what string, f api.Flight, ok bool, want string) {
	t.Helper()
	if !ok || told(f) != want {
		t.Errorf("%s: %s, %v, want %s", what, told(f), ok, want)
	}
}

// nothing holds an answer of Look or Take against nothing and false.
func nothing(t *testing.T, what string, f api.Flight, ok bool) {
	t.Helper()
	if ok || f.To != 0 || len(f.Bytes) != 0 {
		t.Errorf("%s: %s, %v, want nothing and false", what, told(f), ok)
	}
}
