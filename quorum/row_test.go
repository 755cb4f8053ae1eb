package quorum_test

import (
	"math/rand"
	"strconv"
	"testing"

	"tally/api"
	"tally/quorum"
)

// cluster: a shard's copies with a quorum each, as P10.9 tells them, and what can be seen of all of it from above.
type cluster struct {
	*testing.T
	rand    *rand.Rand
	quorums []*quorum.Quorum
	copies  []api.Stored
	way     []api.Msg
	written map[api.Tag]string
	storers map[api.Tag]map[int]bool // who has stored a tag at some time
	count   int                      // of values: each is another one
	firsts  int                      // epochs whose first tag was written when another one's had been chosen
}

func nodes(n int) []int {
	out := make([]int, n)
	for i := range out {
		out[i] = i
	}
	return out
}

func open(t *testing.T, r *rand.Rand, n int) *cluster {
	c := &cluster{T: t, rand: r, quorums: make([]*quorum.Quorum, n), copies: make([]api.Stored, n), written: map[api.Tag]string{{}: "at first"}, storers: map[api.Tag]map[int]bool{{}: {}}}
	for i := range n {
		c.quorums[i] = quorum.New(i, 0, nodes(n))
		c.copies[i].Value = []byte("at first")
		c.storers[api.Tag{}][i] = true
	}
	return c
}

func (c *cluster) majority(tag api.Tag) bool { return 2*len(c.storers[tag]) > len(c.copies) }

func greater(a, b api.Tag) bool {
	return a.Epoch > b.Epoch || a.Epoch == b.Epoch && a.Seq > b.Seq
}

// send looks at what is written, and lays all messages on their way.
func (c *cluster) send(l []api.Msg) {
	c.Helper()
	for _, m := range l {
		if m.Kind == api.MsgWrite {
			c.look(m.Tag, string(m.Value))
		}
		c.way = append(c.way, m)
	}
}

func (c *cluster) look(tag api.Tag, value string) {
	c.Helper()
	was, there := c.written[tag]
	if there && was != value {
		c.Fatalf("%v is written with %q and with %q", tag, was, value)
	}
	if !there && tag.Seq == 1 {
		c.follows(tag, value)
	}
	c.written[tag] = value
}

// follows: the first value of an epoch is one that was written with the greatest tag that a majority had stored, or with one above it.
func (c *cluster) follows(tag api.Tag, value string) {
	c.Helper()
	var last api.Tag
	for t := range c.storers {
		if c.majority(t) && t.Epoch < tag.Epoch && greater(t, last) {
			last = t
		}
	}
	if last.Epoch > 0 {
		c.firsts++
	}
	for t, v := range c.written {
		if v == value && !greater(last, t) {
			return
		}
	}
	c.Fatalf("%v begins with %q, though a majority has stored %v, %q", tag, value, last, c.written[last])
}

// deliver hands a message over: what a copy takes to the copy, the rest to the quorum.
func (c *cluster) deliver(m api.Msg) {
	c.Helper()
	s := &c.copies[m.To]
	epoch := m.Epoch
	switch m.Kind {
	case api.MsgWrite:
		epoch = m.Tag.Epoch
	case api.MsgPrepare, api.MsgBeat:
	default:
		c.send(c.quorums[m.To].Hear(m, 1))
		return
	}
	back := api.Msg{Head: api.Head{From: m.To, To: m.From}}
	if epoch < s.Promised {
		back.Kind, back.Epoch, back.Seen = api.MsgRefuse, epoch, s.Promised
		c.way = append(c.way, back)
		return
	}
	s.Promised = epoch
	switch m.Kind {
	case api.MsgPrepare:
		back.Kind, back.Epoch, back.Tag, back.Value = api.MsgPromise, epoch, s.Tag, s.Value
	case api.MsgBeat:
		back.Kind, back.Epoch, back.Round = api.MsgBeaten, epoch, m.Round
	case api.MsgWrite:
		c.store(s, m)
		if s.Tag != m.Tag {
			return
		}
		back.Kind, back.Tag = api.MsgWrote, m.Tag
	}
	c.way = append(c.way, back)
}

func (c *cluster) store(s *api.Stored, m api.Msg) {
	if !greater(m.Tag, s.Tag) {
		return
	}
	s.Tag, s.Value = m.Tag, m.Value
	if c.storers[m.Tag] == nil {
		c.storers[m.Tag] = map[int]bool{}
	}
	c.storers[m.Tag][m.To] = true
}

// start begins the next epoch of a node: of its own, above what its copy has promised.
func (c *cluster) start(i int) {
	n := uint64(len(c.copies))
	epoch := c.copies[i].Promised/n*n + n + uint64(i)
	c.copies[i].Promised = epoch
	c.send(c.quorums[i].Start(epoch, c.copies[i], 1))
}

func (c *cluster) step(seldom int) {
	c.Helper()
	i := c.rand.Intn(len(c.quorums))
	switch k := c.rand.Intn(40 * seldom); {
	case k == 0:
		c.quorums[i].Stop()
	case k == 1:
		c.quorums[i] = quorum.New(i, 0, nodes(len(c.copies)))
	case k < 4:
		c.start(i)
	case k < 4+3*seldom:
		c.count++
		l, _ := c.quorums[i].Propose([]byte(strconv.Itoa(c.count)), 1)
		c.send(l)
	case k < 4+5*seldom:
		c.send(c.quorums[i].Tick(1))
	case len(c.way) > 0:
		c.pick()
	}
	for _, q := range c.quorums {
		if tag, v := q.Chosen(); tag != (api.Tag{}) && (!c.majority(tag) || c.written[tag] != string(v)) {
			c.Fatalf("%v, %q is told as chosen; %v have stored it", tag, v, c.storers[tag])
		}
	}
}

// pick: any message that is on its way is delivered, now and then left there for a second time, now and then lost.
func (c *cluster) pick() {
	c.Helper()
	j := c.rand.Intn(len(c.way))
	if c.rand.Intn(3) > 0 {
		j = c.rand.Intn(min(len(c.way), 20))
	}
	m := c.way[j]
	if c.rand.Intn(8) > 0 {
		c.way = append(c.way[:j:j], c.way[j+1:]...)
	}
	if c.rand.Intn(10) > 0 {
		c.deliver(m)
	}
}

// P10.9: whatever is lost, doubled and reordered, stopped and made anew: a tag is written with one value, what is told as chosen a majority has stored, and what a majority has stored is taken up by all later epochs.
func TestRow(t *testing.T) {
	for n, want := range map[int]int{1: 1000, 3: 500, 5: 200, 7: 100} {
		firsts, chosen := 0, 0
		for seed := range int64(100) {
			c := open(t, rand.New(rand.NewSource(seed)), n)
			for range 1000 {
				c.step(1 + int(seed%5))
			}
			firsts += c.firsts
			for tag := range c.storers {
				if c.majority(tag) && tag.Seq > 1 {
					chosen++
				}
			}
		}
		if firsts < want || chosen < want {
			t.Errorf("%d copies: only %d epochs behind others, %d tags of later seqs", n, firsts, chosen)
		}
	}
}
