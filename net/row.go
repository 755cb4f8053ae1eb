package net

import (
	"slices"

	"tally/api"
)

// A message keeps its bytes as a string: nobody can change it, so a double may have the very same.
type message struct {
	to    int
	bytes string
}

// flight tells a message in memory of its own.
func (m message) flight() api.Flight {
	return api.Flight{To: m.to, Bytes: []byte(m.bytes)}
}

// A row holds messages in the order in which they came, and knows its room, since a double needs some.
type row struct {
	room     int
	messages []message
}

// Len tells how many there are.
func (r *row) Len() int {
	return len(r.messages)
}

// Look tells the message of an index.
func (r *row) Look(i int) (api.Flight, bool) {
	if !r.has(i) {
		return api.Flight{}, false
	}
	return r.messages[i].flight(), true
}

// Take tells the message of an index, and takes it out.
func (r *row) Take(i int) (api.Flight, bool) {
	f, ok := r.Look(i)
	return f, ok && r.Drop(i)
}

// Drop takes the message of an index out.
func (r *row) Drop(i int) bool {
	if !r.has(i) {
		return false
	}
	r.messages = slices.Delete(r.messages, i, i+1)
	return true
}

// Double adds another message like that of an index.
func (r *row) Double(i int) bool {
	if !r.has(i) || r.full() {
		return false
	}
	r.add(r.messages[i])
	return true
}

func (r *row) has(i int) bool {
	return i >= 0 && i < len(r.messages)
}

func (r *row) full() bool {
	return len(r.messages) >= r.room
}

func (r *row) add(m message) {
	r.messages = append(r.messages, m)
}
