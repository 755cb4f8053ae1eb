package replica_test

import (
	"math/rand"
	"strconv"
	"testing"

	"tally/api"
	"tally/replica"
)

// play: a replica and a plain copy beside it, and what has been told of promises and tags.
type play struct {
	*testing.T
	r        *replica.Replica
	c        model
	promised uint64  // the greatest epoch that was promised by an answer
	wrote    api.Tag // the greatest tag of which wrote was answered
}

func above(a, b api.Tag) bool {
	return a.Epoch > b.Epoch || a.Epoch == b.Epoch && a.Seq > b.Seq
}

// hear holds what is heard against the plain copy, and both against P9.6.
func (p *play) hear(m api.Msg) replica.Heard {
	p.Helper()
	was, waited := p.r.Stored(), p.r.Wait()
	answer, flags := p.c.hear(m)
	hears(p.T, p.r, m, answer, flags)
	// What comes a second time at once is answered as the first time, and changes nothing more to be kept: P9.7.
	now := p.r.Stored()
	h := p.r.Hear(m)
	if !same(h.Answer, answer) || h.Change || h.Taken != (flags == "T" || flags == "TC") {
		p.Fatalf("%+v a second time: %+v", m, h)
	}
	p.c.hear(m)
	p.stands(was, now, flags == "C" || flags == "TC")
	p.fenced(m, h)
	if !h.Taken && p.r.Wait() != waited {
		p.Fatalf("%+v is not taken, and wait is %d, was %d", m, p.r.Wait(), waited)
	}
	return h
}

// stands: promised and tag never fall, the value changes only with the tag, Change tells it, and a second time changes nothing.
func (p *play) stands(was, now api.Stored, change bool) {
	p.Helper()
	other := was.Promised != now.Promised || was.Tag != now.Tag
	if now.Promised < was.Promised || above(was.Tag, now.Tag) || change != other {
		p.Fatalf("%+v has become %+v, Change %v", was, now, change)
	}
	if was.Tag == now.Tag && string(was.Value) != string(now.Value) {
		p.Fatalf("the tag %v had %q, has %q", was.Tag, was.Value, now.Value)
	}
	if behind := p.r.Stored(); behind.Promised != now.Promised || behind.Tag != now.Tag || string(behind.Value) != string(now.Value) {
		p.Fatalf("%+v has become %+v a second time", now, behind)
	}
}

// fenced: behind a promise nothing lesser is taken, and a promise tells no lesser tag than any that was answered by wrote.
func (p *play) fenced(m api.Msg, h replica.Heard) {
	p.Helper()
	epoch := m.Epoch
	if m.Kind == api.MsgWrite {
		epoch = m.Tag.Epoch
	}
	if h.Taken && epoch < p.promised {
		p.Fatalf("%d was promised, and %+v is taken", p.promised, m)
	}
	switch h.Answer.Kind {
	case api.MsgPromise:
		p.promised = max(p.promised, h.Answer.Epoch)
		if above(p.wrote, h.Answer.Tag) {
			p.Fatalf("%v was written, and the promise tells %v", p.wrote, h.Answer.Tag)
		}
	case api.MsgWrote:
		if above(h.Answer.Tag, p.wrote) {
			p.wrote = h.Answer.Tag
		}
	}
}

// draw: a prepare, write or beat near what is promised; now and then another one.
func (p *play) draw(r *rand.Rand, value string) api.Msg {
	epoch := p.c.promised + uint64(r.Intn(5))
	epoch -= min(epoch, uint64(r.Intn(4)))
	switch r.Intn(10) {
	case 0, 1, 2:
		return prepare(epoch)
	case 3, 4, 5, 6:
		return write(epoch, uint64(r.Intn(4)), value, r.Intn(7)-1)
	case 7, 8:
		return beat(epoch, uint64(r.Intn(4)), r.Intn(7)-1)
	}
	m := full(r.Intn(16) - 2)
	m.Epoch, m.Tag.Epoch, m.Span = epoch, epoch, r.Intn(3)
	return m
}

// P9.2 to P9.4, P9.6, P9.7: drawn calls, now and then one loaded anew out of what was kept: a promise and a wrote outlast that.
func TestDrawn(t *testing.T) {
	r := rand.New(rand.NewSource(9))
	kinds := map[int]int{}
	for range 300 {
		p := &play{T: t, r: replica.New([]byte("v")), c: model{value: "v"}}
		for i := range 300 {
			switch n := r.Intn(20); {
			case n < 5:
				p.r.Tick()
				p.c.tick()
			case n == 5:
				epoch := p.c.promised + uint64(r.Intn(3))
				epoch -= min(epoch, 1)
				if got, want := p.r.Own(epoch), p.c.own(epoch); got != want {
					t.Fatalf("Own(%d): %v, want %v", epoch, got, want)
				}
			case n == 6:
				p.c.wait = r.Intn(6)
				p.r = replica.Load(p.r.Stored(), p.c.wait)
			default:
				kinds[p.hear(p.draw(r, strconv.Itoa(i))).Answer.Kind]++
			}
			if state(p.r) != p.c.state() {
				t.Fatalf("%s, want %s", state(p.r), p.c.state())
			}
		}
	}
	for _, kind := range []int{api.MsgNone, api.MsgPromise, api.MsgRefuse, api.MsgWrote, api.MsgBeaten} {
		if kinds[kind] < 1000 {
			t.Errorf("only %d answers of kind %d", kinds[kind], kind)
		}
	}
}

// P9.6: behind a promise no write or beat of a lesser epoch is taken, however late it comes, and what was written stands in the next promise.
func TestFence(t *testing.T) {
	r := replica.New([]byte("v"))
	hears(t, r, write(2, 1, "w", 0), wrote(2, 1), "TC")
	hears(t, r, write(2, 2, "x", 0), wrote(2, 2), "TC")
	hears(t, r, prepare(4), promise(4, api.Tag{Epoch: 2, Seq: 2}, "x"), "C")
	for range 3 {
		for epoch := range uint64(4) {
			hears(t, r, write(epoch, 9, "late", 9), refuse(epoch, 4), "")
			hears(t, r, beat(epoch, 9, 9), refuse(epoch, 4), "")
		}
		r.Tick()
	}
	is(t, "fenced", r, `4 (2, 2) "x" wait 0`)
	if !r.Own(5) {
		t.Errorf("Own(5)")
	}
	hears(t, r, write(4, 1, "late", 9), refuse(4, 5), "")
	hears(t, r, beat(4, 1, 9), refuse(4, 5), "")
	is(t, "fenced by its own", r, `5 (2, 2) "x" wait 0`)
}

// P9.7: for as many ticks as the last span, whichever was taken last, and be it stored or not, all greater prepares are refused; behind that many they are promised.
func TestKeptOut(t *testing.T) {
	for _, last := range []api.Msg{write(5, 3, "w", 0), write(5, 2, "w", 0), write(5, 1, "w", 0), write(6, 1, "w", 0), beat(5, 1, 0), beat(6, 1, 0)} {
		for _, ahead := range []int{0, 1, 50} {
			for span := range 8 {
				r := replica.Load(api.Stored{Promised: 5, Tag: api.Tag{Epoch: 5, Seq: 2}}, 0)
				hears(t, r, beat(5, 1, ahead), beaten(5, 1), "T")
				last.Span = span
				if !r.Hear(last).Taken {
					t.Fatalf("%+v is not taken", last)
				}
				s := r.Stored()
				for range span {
					hears(t, r, prepare(7), refuse(7, s.Promised), "")
					hears(t, r, prepare(api.MaxNumber), refuse(api.MaxNumber, s.Promised), "")
					hears(t, r, prepare(s.Promised), promise(s.Promised, s.Tag, string(s.Value)), "")
					hears(t, r, prepare(1), refuse(1, s.Promised), "")
					hears(t, r, write(1, 1, "", 99), refuse(1, s.Promised), "")
					r.Tick()
				}
				hears(t, r, prepare(7), promise(7, s.Tag, string(s.Value)), "C")
			}
		}
	}
}
