package quorum_test

import (
	"math/rand"
	"strconv"
	"testing"

	"tally/api"
	"tally/quorum"
)

// pair: a quorum and a plain one beside it.
type pair struct {
	*testing.T
	q    *quorum.Quorum
	c    *model
	rand *rand.Rand
}

func (p *pair) near(n uint64) uint64 {
	if p.rand.Intn(4) > 0 {
		return n
	}
	n += uint64(p.rand.Intn(3))
	return n - min(n, uint64(p.rand.Intn(3)))
}

// draw: a message near what is under way; now and then one that is not for it.
func (p *pair) draw(value string) api.Msg {
	m := full(p.rand.Intn(api.MsgAnswer+2), p.c.copies[p.rand.Intn(len(p.c.copies))])
	if p.rand.Intn(8) > 0 {
		m.Kind = []int{api.MsgPromise, api.MsgWrote, api.MsgWrote, api.MsgBeaten, api.MsgBeaten, api.MsgRefuse}[p.rand.Intn(6)]
	}
	m.Epoch, m.Round, m.Seen = p.near(p.c.epoch), p.near(p.c.begun), uint64(p.rand.Intn(20))
	m.Tag, m.Value = at(p.near(p.c.tag.Epoch), p.near(p.c.tag.Seq)), []byte(value)
	switch p.rand.Intn(20) {
	case 0:
		m.To++
	case 1:
		m.Shard--
	case 2:
		m.From = p.rand.Intn(9)
	}
	// A refuse that ends everything comes seldom, so that something goes on.
	if m.Kind == api.MsgRefuse && p.rand.Intn(3) > 0 {
		m.Seen = min(m.Seen, p.c.epoch)
	}
	return m
}

func (p *pair) same(what string, got, want []api.Msg) {
	p.Helper()
	if tells(got) != tells(want) || len(got) != len(want) {
		p.Fatalf("%s: %q, want %q", what, tells(got), tells(want))
	}
	if state(p.q) != p.c.state() {
		p.Fatalf("%s: %s, want %s", what, state(p.q), p.c.state())
	}
}

// hear: P10.10: what is heard a second time at once does nothing more.
func (p *pair) hear(m api.Msg, span int) {
	p.Helper()
	p.same("Hear", p.q.Hear(m, span), p.c.hear(m, span))
	p.same("Hear again", p.q.Hear(m, span), nil)
}

func (p *pair) step(i int) {
	p.Helper()
	value, span := strconv.Itoa(i), p.rand.Intn(9)-1
	switch n := p.rand.Intn(40); {
	case n < 3 && p.c.phase == api.PhaseIdle || n == 0 && p.rand.Intn(5) == 0:
		epoch, s := uint64(p.rand.Intn(15)), own(at(uint64(p.rand.Intn(3)), uint64(p.rand.Intn(3))), value)
		p.same("Start", p.q.Start(epoch, s, span), p.c.start(epoch, s, span))
	case n == 1 && p.rand.Intn(5) == 0:
		p.q.Stop()
		p.c.stop()
		p.same("Stop", nil, nil)
	case n < 7:
		got, ok := p.q.Propose([]byte(value), span)
		want, good := p.c.propose(value, span)
		p.same("Propose", got, want)
		if ok != good {
			p.Fatalf("Propose: %v, want %v", ok, good)
		}
	case n < 12:
		p.same("Tick", p.q.Tick(span), p.c.tick(span))
	default:
		p.hear(p.draw(value), span)
	}
}

// P10.2 to P10.7, P10.10: drawn calls, each answer and each state held against the chapter's plain telling.
func TestDrawn(t *testing.T) {
	r := rand.New(rand.NewSource(10))
	met := map[string]int{}
	for i := range 400 {
		copies := [][]int{{1}, {4, 1, 2}, {1, 4, 2}, {4, 0, 1, 7, 2}, {6, 5, 4, 3, 2, 1, 0}}[i%5]
		p := &pair{t, quorum.New(node, shard, copies), &model{node: node, shard: shard, copies: copies}, r}
		for i := range 400 {
			held := p.c.holds()
			p.step(i)
			met[phases[p.c.phase]]++
			if p.c.tag.Seq > 2 {
				met["third seq"]++
			}
			if p.c.done > 1 {
				met["second round"]++
			}
			if held && p.c.phase == api.PhaseIdle {
				met["ended"]++
			}
			if p.c.holds() && len(p.c.refused) > 0 {
				met["refused"]++
			}
		}
	}
	for _, what := range append(phases, "third seq", "second round", "ended", "refused") {
		if met[what] < 500 {
			t.Errorf("only %d times %s", met[what], what)
		}
	}
}

// P10.10: a message that is heard again later, in the same epoch, has been counted already: of each kind, whatever has happened between in which its own matter has not gone on.
func TestAgainLater(t *testing.T) {
	q := five()
	q.Start(6, own(at(0, 0), "x"), 5)
	p, again := promise(2, 6, at(1, 1), "p"), promise(2, 6, at(1, 1), "p")
	deaf(t, q, p)
	q.Tick(5)
	deaf(t, q, again)
	q.Hear(promise(4, 6, at(0, 0), ""), 5)
	deaf(t, q, p, again)
	deaf(t, q, wrote(2, 6, 1))
	q.Tick(5)
	deaf(t, q, wrote(2, 6, 1), p)
	deaf(t, q, wrote(4, 6, 1))
	q.Hear(wrote(0, 6, 1), 5)
	deaf(t, q, wrote(0, 6, 1), p)
	q.Tick(5)
	deaf(t, q, beaten(2, 6, 1), wrote(2, 6, 1), beaten(2, 6, 1), beaten(7, 6, 1))
	q.Propose([]byte("y"), 5)
	deaf(t, q, beaten(2, 6, 1), beaten(7, 6, 1), wrote(0, 6, 1), p)
	q.Hear(beaten(1, 6, 1), 5)
	deaf(t, q, beaten(1, 6, 1))
	q.Tick(5)
	deaf(t, q, beaten(1, 6, 1), beaten(2, 6, 1), beaten(7, 6, 1))
	q.Hear(refuse(2, 6, 9), 5)
	q.Hear(refuse(4, 6, 9), 5)
	deaf(t, q, refuse(2, 6, 9), refuse(4, 6, 9))
	for _, from := range []int{4, 0, 1} {
		q.Hear(wrote(from, 6, 2), 5)
		q.Hear(beaten(from, 6, 2), 5)
	}
	is(t, "going on", q, `ready holds epoch 6 seen 9 chosen 6.2 "y" round 2/2`)
	deaf(t, q, refuse(2, 6, 9), refuse(4, 6, 9), refuse(2, 6, 9))
	hears(t, q, refuse(0, 6, 9), "", `idle epoch 0 seen 9 chosen 0.0 "" round 0/0`)
}
