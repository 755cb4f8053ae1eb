package quorum_test

import (
	"fmt"
	"slices"
	"strings"
	"testing"

	"tally/api"
	"tally/quorum"
)

// The examples' quorum is that of node 1 about shard 3, with the copies 1, 4, 2.
const (
	node  = 1
	shard = 3
)

func three() *quorum.Quorum { return quorum.New(node, shard, []int{1, 4, 2}) }

func five() *quorum.Quorum { return quorum.New(node, shard, []int{4, 0, 1, 7, 2}) }

func to(kind, from int) api.Msg {
	return api.Msg{Head: api.Head{Kind: kind, From: from, To: node, Shard: shard}}
}

func promise(from int, epoch uint64, tag api.Tag, value string) api.Msg {
	m := to(api.MsgPromise, from)
	m.Epoch, m.Tag, m.Value = epoch, tag, []byte(value)
	return m
}

func wrote(from int, epoch, seq uint64) api.Msg {
	m := to(api.MsgWrote, from)
	m.Tag = at(epoch, seq)
	return m
}

func refuse(from int, epoch, seen uint64) api.Msg {
	m := to(api.MsgRefuse, from)
	m.Epoch, m.Seen = epoch, seen
	return m
}

func beaten(from int, epoch, round uint64) api.Msg {
	m := to(api.MsgBeaten, from)
	m.Epoch, m.Round = epoch, round
	return m
}

func at(epoch, seq uint64) api.Tag { return api.Tag{Epoch: epoch, Seq: seq} }

func own(tag api.Tag, value string) api.Stored {
	return api.Stored{Tag: tag, Value: []byte(value)}
}

// tells: messages in a line: what each says and to which copies, alike ones behind each other drawn together. One that says more than its kind does, or of whom else, is told whole.
func tells(l []api.Msg) string {
	var out []string
	last := ""
	for _, m := range l {
		what := says(m)
		if what == last {
			out[len(out)-1] += fmt.Sprintf(",%d", m.To)
		} else {
			out = append(out, fmt.Sprintf("%s >%d", what, m.To))
		}
		last = what
	}
	return strings.Join(out, "; ")
}

func says(m api.Msg) string {
	bare := api.Msg{Head: m.Head}
	what := ""
	switch m.Kind {
	case api.MsgPrepare:
		bare.Epoch = m.Epoch
		what = fmt.Sprintf("prepare %d", m.Epoch)
	case api.MsgWrite:
		bare.Tag, bare.Value, bare.Span = m.Tag, m.Value, m.Span
		what = fmt.Sprintf("write %d.%d %s /%d", m.Tag.Epoch, m.Tag.Seq, m.Value, m.Span)
	case api.MsgBeat:
		bare.Epoch, bare.Round, bare.Span = m.Epoch, m.Round, m.Span
		what = fmt.Sprintf("beat %d.%d /%d", m.Epoch, m.Round, m.Span)
	}
	whole := fmt.Sprintf("%+v", m)
	if what == "" || m.From != node || m.Shard != shard || whole != fmt.Sprintf("%+v", bare) {
		return whole
	}
	return what
}

func sends(t *testing.T, what string, got []api.Msg, want string) {
	t.Helper()
	if tells(got) != want {
		t.Fatalf("%s: %q, want %q", what, tells(got), want)
	}
}

var phases = []string{"idle", "preparing", "writing", "ready"}

// state: all that a quorum tells of itself.
func state(q *quorum.Quorum) string {
	tag, value := q.Chosen()
	begun, done := q.Round()
	out := phases[q.Phase()]
	if q.Holds() {
		out += " holds"
	}
	return fmt.Sprintf("%s epoch %d seen %d chosen %d.%d %q round %d/%d", out, q.Epoch(), q.Seen(), tag.Epoch, tag.Seq, value, begun, done)
}

func is(t *testing.T, what string, q *quorum.Quorum, want string) {
	t.Helper()
	if got := state(q); got != want {
		t.Fatalf("%s: %s, want %s", what, got, want)
	}
}

// hears holds what is told for a message, and how the quorum stands then, against what is to be.
func hears(t *testing.T, q *quorum.Quorum, m api.Msg, told, stands string) {
	t.Helper()
	was := state(q)
	if got := tells(q.Hear(m, 5)); got != told || state(q) != stands {
		t.Fatalf("%s hears %+v: %q, %s, want %q, %s", was, m, got, state(q), told, stands)
	}
}

// deaf: for each of the messages nothing is told, and how the quorum stands is as it was. (Who has been counted shows only later.)
func deaf(t *testing.T, q *quorum.Quorum, l ...api.Msg) {
	t.Helper()
	for _, m := range l {
		hears(t, q, m, "", state(q))
	}
}

// hold brings a quorum to where it is ready: its epoch's first value has been stored by the first copies, as many as a majority needs.
func hold(t *testing.T, q *quorum.Quorum, copies []int, epoch uint64, value string) {
	t.Helper()
	q.Start(epoch, own(at(0, 0), value), 5)
	for _, c := range copies {
		q.Hear(promise(c, epoch, at(0, 0), "other"), 5)
	}
	for _, c := range copies[:len(copies)/2+1] {
		q.Hear(wrote(c, epoch, 1), 5)
	}
	if q.Phase() != api.PhaseReady {
		t.Fatalf("not ready: %s", state(q))
	}
}

// model: a quorum as the chapter tells it, in lists of what was counted.
type model struct {
	node, shard int
	copies      []int
	phase       int
	epoch, seen uint64
	promised    []api.Stored
	who         []int // of whom these are
	tag         api.Tag
	value       string
	wrote       []int
	chosen      api.Tag
	told        string
	begun, done uint64
	beaten      []int
	refused     []int
}

func (c *model) stop() {
	*c = model{node: c.node, shard: c.shard, copies: c.copies, seen: c.seen}
}

func (c *model) most(n int) bool { return n >= len(c.copies)/2+1 }

func (c *model) holds() bool {
	return c.phase == api.PhaseReady || c.phase == api.PhaseWriting && c.tag.Seq > 1
}

// send: a message to each copy, but to those.
func (c *model) send(m api.Msg, but ...int) []api.Msg {
	var out []api.Msg
	for _, to := range c.copies {
		if !slices.Contains(but, to) {
			m.From, m.To, m.Shard = c.node, to, c.shard
			out = append(out, m)
		}
	}
	return out
}

func (c *model) writes(span int) []api.Msg {
	return c.send(api.Msg{Head: api.Head{Kind: api.MsgWrite}, Tag: c.tag, Value: []byte(c.value), Span: span}, c.wrote...)
}

func (c *model) prepares() []api.Msg {
	return c.send(api.Msg{Head: api.Head{Kind: api.MsgPrepare}, Epoch: c.epoch}, c.node)
}

func (c *model) first(span int) []api.Msg {
	if !c.most(len(c.who)) {
		return nil
	}
	best := c.promised[0]
	for _, s := range c.promised {
		if s.Tag.Epoch > best.Tag.Epoch || s.Tag.Epoch == best.Tag.Epoch && s.Tag.Seq > best.Tag.Seq {
			best = s
		}
	}
	c.phase, c.tag, c.value, c.wrote = api.PhaseWriting, at(c.epoch, 1), string(best.Value), nil
	return c.writes(span)
}

func (c *model) start(epoch uint64, own api.Stored, span int) []api.Msg {
	c.stop()
	c.phase, c.epoch, c.promised, c.who = api.PhasePreparing, epoch, []api.Stored{own}, []int{c.node}
	if len(c.copies) == 1 {
		return c.first(span)
	}
	return c.prepares()
}

func (c *model) propose(value string, span int) ([]api.Msg, bool) {
	if c.phase != api.PhaseReady {
		return nil, false
	}
	c.phase, c.tag, c.value, c.wrote = api.PhaseWriting, at(c.chosen.Epoch, c.chosen.Seq+1), value, nil
	return c.writes(span), true
}

func (c *model) tick(span int) []api.Msg {
	var out []api.Msg
	if c.phase == api.PhasePreparing {
		out = append(out, c.prepares()...)
	}
	if c.phase == api.PhaseWriting {
		out = append(out, c.writes(span)...)
	}
	if c.holds() {
		if c.begun == c.done {
			c.begun, c.beaten = c.begun+1, nil
		}
		out = append(out, c.send(api.Msg{Head: api.Head{Kind: api.MsgBeat}, Epoch: c.epoch, Round: c.begun, Span: span}, c.beaten...)...)
	}
	return out
}

func (c *model) hear(m api.Msg, span int) []api.Msg {
	if m.To != c.node || m.Shard != c.shard || !slices.Contains(c.copies, m.From) {
		return nil
	}
	switch m.Kind {
	case api.MsgPromise:
		if c.phase == api.PhasePreparing && m.Epoch == c.epoch && !slices.Contains(c.who, m.From) {
			c.who, c.promised = append(c.who, m.From), append(c.promised, api.Stored{Tag: m.Tag, Value: slices.Clone(m.Value)})
			return c.first(span)
		}
	case api.MsgWrote:
		if c.phase == api.PhaseWriting && m.Tag == c.tag && !slices.Contains(c.wrote, m.From) {
			if c.wrote = append(c.wrote, m.From); c.most(len(c.wrote)) {
				c.phase, c.chosen, c.told = api.PhaseReady, c.tag, c.value
			}
		}
	case api.MsgRefuse:
		c.refuse(m)
	case api.MsgBeaten:
		if c.holds() && c.begun != c.done && m.Epoch == c.epoch && m.Round == c.begun && !slices.Contains(c.beaten, m.From) {
			if c.beaten = append(c.beaten, m.From); c.most(len(c.beaten)) {
				c.done = c.begun
			}
		}
	}
	return nil
}

func (c *model) refuse(m api.Msg) {
	if m.Seen > c.seen {
		c.seen = m.Seen
	}
	if c.phase == api.PhaseIdle || m.Epoch != c.epoch || m.Seen <= c.epoch {
		return
	}
	if !c.holds() {
		c.stop()
		return
	}
	if !slices.Contains(c.refused, m.From) {
		c.refused = append(c.refused, m.From)
	}
	if !c.most(len(c.copies) - len(c.refused)) {
		c.stop()
	}
}

func (c *model) state() string {
	out := phases[c.phase]
	if c.holds() {
		out += " holds"
	}
	return fmt.Sprintf("%s epoch %d seen %d chosen %d.%d %q round %d/%d", out, c.epoch, c.seen, c.chosen.Epoch, c.chosen.Seq, c.told, c.begun, c.done)
}
