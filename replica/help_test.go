package replica_test

import (
	"fmt"
	"reflect"
	"testing"

	"tally/api"
	"tally/replica"
)

var there = api.Head{From: 2, To: 1, Shard: 3}

func of(kind int) api.Msg {
	m := api.Msg{Head: there}
	m.Kind = kind
	return m
}

func prepare(epoch uint64) api.Msg {
	m := of(api.MsgPrepare)
	m.Epoch = epoch
	return m
}

func write(epoch, seq uint64, value string, span int) api.Msg {
	m := of(api.MsgWrite)
	m.Tag, m.Value, m.Span = api.Tag{Epoch: epoch, Seq: seq}, []byte(value), span
	return m
}

func beat(epoch, round uint64, span int) api.Msg {
	m := of(api.MsgBeat)
	m.Epoch, m.Round, m.Span = epoch, round, span
	return m
}

// back: an answer to those above, with nothing named yet.
func back(kind int) api.Msg {
	return api.Msg{Head: api.Head{Kind: kind, From: 1, To: 2, Shard: 3}}
}

func promise(epoch uint64, tag api.Tag, value string) api.Msg {
	m := back(api.MsgPromise)
	m.Epoch, m.Tag, m.Value = epoch, tag, []byte(value)
	return m
}

func refuse(epoch, seen uint64) api.Msg {
	m := back(api.MsgRefuse)
	m.Epoch, m.Seen = epoch, seen
	return m
}

func wrote(epoch, seq uint64) api.Msg {
	m := back(api.MsgWrote)
	m.Tag = api.Tag{Epoch: epoch, Seq: seq}
	return m
}

func beaten(epoch, round uint64) api.Msg {
	m := back(api.MsgBeaten)
	m.Epoch, m.Round = epoch, round
	return m
}

// same: R3: no bytes are no bytes.
func same(a, b api.Msg) bool {
	if len(a.Value) == 0 && len(b.Value) == 0 {
		a.Value, b.Value = nil, nil
	}
	return reflect.DeepEqual(a, b)
}

// state: all that a replica tells of itself.
func state(r *replica.Replica) string {
	s := r.Stored()
	return fmt.Sprintf("%d (%d, %d) %q wait %d", s.Promised, s.Tag.Epoch, s.Tag.Seq, s.Value, r.Wait())
}

func is(t *testing.T, what string, r *replica.Replica, want string) {
	t.Helper()
	if got := state(r); got != want {
		t.Errorf("%s: %s, want %s", what, got, want)
	}
}

// hears holds what becomes of a message against what is to become of it: an answer of no kind is none; of flags, T is Taken, C is Change.
func hears(t *testing.T, r *replica.Replica, m, answer api.Msg, flags string) {
	t.Helper()
	was := state(r)
	h := r.Hear(m)
	got := ""
	if h.Taken {
		got += "T"
	}
	if h.Change {
		got += "C"
	}
	if !same(h.Answer, answer) || h.Answered != (answer.Kind != api.MsgNone) || got != flags {
		t.Fatalf("%s hears %+v: %+v, %v, %q, want %+v, %q", was, m, h.Answer, h.Answered, got, answer, flags)
	}
}

// model: a copy as the chapter tells it, in plain numbers and a text.
type model struct {
	promised, epoch, seq uint64
	value                string
	wait                 int
}

func (c model) load() *replica.Replica {
	return replica.Load(api.Stored{Promised: c.promised, Tag: api.Tag{Epoch: c.epoch, Seq: c.seq}, Value: []byte(c.value)}, c.wait)
}

func (c model) state() string {
	return fmt.Sprintf("%d (%d, %d) %q wait %d", c.promised, c.epoch, c.seq, c.value, c.wait)
}

func (c *model) tick() {
	if c.wait > 0 {
		c.wait--
	}
}

func (c *model) own(epoch uint64) bool {
	if epoch <= c.promised {
		return false
	}
	c.promised = epoch
	return true
}

// out keeps others out.
func (c *model) out(span int) {
	c.wait = span
	if span < 0 {
		c.wait = 0
	}
}

// hear tells the answer and the flags, as hears takes them.
func (c *model) hear(m api.Msg) (answer api.Msg, flags string) {
	was := *c
	switch {
	case m.Kind == api.MsgPrepare && (m.Epoch < c.promised || m.Epoch > c.promised && c.wait > 0):
		answer = refuse(m.Epoch, c.promised)
	case m.Kind == api.MsgPrepare:
		answer = promise(m.Epoch, api.Tag{Epoch: c.epoch, Seq: c.seq}, c.value)
		c.promised = m.Epoch
	case m.Kind == api.MsgWrite && m.Tag.Epoch < c.promised:
		answer = refuse(m.Tag.Epoch, c.promised)
	case m.Kind == api.MsgWrite:
		flags = "T"
		c.promised = m.Tag.Epoch
		c.out(m.Span)
		if m.Tag.Epoch > c.epoch || m.Tag.Epoch == c.epoch && m.Tag.Seq > c.seq {
			c.epoch, c.seq, c.value = m.Tag.Epoch, m.Tag.Seq, string(m.Value)
		}
		if m.Tag.Epoch == c.epoch && m.Tag.Seq == c.seq {
			answer = wrote(c.epoch, c.seq)
		}
	case m.Kind == api.MsgBeat && m.Epoch < c.promised:
		answer = refuse(m.Epoch, c.promised)
	case m.Kind == api.MsgBeat:
		flags = "T"
		c.promised = m.Epoch
		c.out(m.Span)
		answer = beaten(m.Epoch, m.Round)
	}
	if c.promised != was.promised || c.epoch != was.epoch || c.seq != was.seq {
		flags += "C"
	}
	if answer.Kind != api.MsgNone {
		answer.From, answer.To, answer.Shard = m.To, m.From, m.Shard
	}
	return answer, flags
}
