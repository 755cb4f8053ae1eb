package message_test

import (
	"math"
	"testing"

	"tally/api"
	"tally/message"
)

// The chapter's examples 1 to 3.
func TestExamples(t *testing.T) {
	m := api.Msg{Head: api.Head{Kind: api.MsgPrepare, From: 1, To: 2}, Epoch: 5}
	is(t, m, seal(unhex(t, "01 01 02 00 05")...))
	m = api.Msg{Head: api.Head{Kind: api.MsgWrite, From: 1, To: 2, Shard: 3}, Tag: api.Tag{Epoch: 5, Seq: 1}, Span: 6, Value: []byte("xy")}
	is(t, m, seal(unhex(t, "04 01 02 03 05 01 06 02 78 79")...))
	m = api.Msg{Head: api.Head{Kind: api.MsgAnswer, To: 1}, Call: api.Call{Life: 2, ID: 9}, Amount: 300, Bad: api.BadFunds}
	is(t, m, seal(unhex(t, "0b 00 01 00 ac 02 02 09 00 b0 02")...))
}

// The chapter's example 4.
func TestExamplesRefused(t *testing.T) {
	unwritten(t, "a prepare with Seen", api.Msg{Head: api.Head{Kind: api.MsgPrepare}, Seen: 1}, api.ErrMessageArg)
	unwritten(t, "a prepare above", api.Msg{Head: api.Head{Kind: api.MsgPrepare}, Epoch: api.MaxNumber + 1}, api.ErrMessageArg)
	unwritten(t, "kind 12", api.Msg{Head: api.Head{Kind: 12}}, api.ErrMessageKind)
	unwritten(t, "a refuse with Span", api.Msg{Head: api.Head{Kind: api.MsgRefuse}, Span: 1}, api.ErrMessageArg)
}

// P8.1: a kind that is none is refused as such, whatever else is wrong, and whatever kind its lowest byte would be.
func TestNoKind(t *testing.T) {
	for _, kind := range []int{api.MsgNone, -1, api.MsgAnswer + 1, 255, 256 + api.MsgPrepare, -256 + api.MsgPrepare, math.MaxInt, math.MinInt} {
		unwritten(t, "no kind", of(kind), api.ErrMessageKind)
		unwritten(t, "no kind, no node", api.Msg{Head: api.Head{Kind: kind, From: -1}}, api.ErrMessageKind)
		unwritten(t, "no kind, no epoch", api.Msg{Head: api.Head{Kind: kind}, Epoch: math.MaxUint64}, api.ErrMessageKind)
	}
}

// P8.1: From and To are nodes, Shard is a shard, of every kind.
func TestHeads(t *testing.T) {
	for _, kind := range kinds() {
		for _, set := range []struct {
			name  string
			to    func(m *api.Msg, n int)
			count int
		}{
			{"From", func(m *api.Msg, n int) { m.From = n }, api.MaxNodes},
			{"To", func(m *api.Msg, n int) { m.To = n }, api.MaxNodes},
			{"Shard", func(m *api.Msg, n int) { m.Shard = n }, api.MaxShards},
		} {
			m := middle(kind)
			for n := range set.count {
				set.to(&m, n)
				is(t, m, seal(body(m)...))
			}
			for _, n := range []int{-1, set.count, 255, 256, 257, -256, math.MaxInt, math.MinInt} {
				set.to(&m, n)
				unwritten(t, set.name, m, api.ErrMessageArg)
			}
		}
	}
}

// P8.1, P8.3: each part that a kind uses, from its least to its greatest, while the others are zero, and while they are not.
func TestUsed(t *testing.T) {
	for _, kind := range kinds() {
		is(t, of(kind), seal(body(of(kind))...))
		is(t, middle(kind), seal(body(middle(kind))...))
		is(t, most(kind), seal(body(most(kind))...))
		for _, p := range usedParts(kind) {
			for _, m := range []api.Msg{of(kind), middle(kind), most(kind)} {
				for _, n := range []uint64{0, 1, 2, 127, 128, p.most - 1, p.most} {
					if n <= p.most && (p.name != "Bad" || n == 0 || n >= 300) {
						p.set(&m, n)
						is(t, m, seal(body(m)...))
					}
				}
			}
		}
	}
}

// beyond: numbers and lengths that a part may not have: above its greatest, and of a number, which is no length, also those that are below 0 as an int, or whose lowest byte is 0.
func beyond(p part) []uint64 {
	l := []uint64{p.most + 1, p.most + 2}
	if p.name != "Value" && p.name != "Name" && p.name != "Other" {
		l = append(l, 1<<8*(1+p.most>>8), 1<<60, math.MaxInt, 1<<63, math.MaxUint64-1, math.MaxUint64)
	}
	return l
}

// P8.1: a part that a kind uses is refused beyond its bounds.
func TestBeyond(t *testing.T) {
	for _, kind := range kinds() {
		for _, p := range usedParts(kind) {
			for _, m := range []api.Msg{of(kind), middle(kind), most(kind)} {
				for _, n := range beyond(p) {
					p.set(&m, n)
					unwritten(t, p.name, m, api.ErrMessageArg)
				}
			}
		}
	}
}

// P8.1: a part that a kind does not use is refused unless it is zero.
func TestUnused(t *testing.T) {
	for _, kind := range kinds() {
		for _, p := range parts() {
			if uses(kind, p.name) {
				continue
			}
			for _, m := range []api.Msg{of(kind), middle(kind), most(kind)} {
				for _, n := range append(beyond(p), 1, p.most) {
					p.set(&m, n)
					unwritten(t, p.name, m, api.ErrMessageArg)
				}
				p.set(&m, 0)
				is(t, m, seal(body(m)...))
			}
		}
	}
}

// P8.1, R3: a Value of no bytes is zero, nil or not, used or not.
func TestNoValue(t *testing.T) {
	for _, kind := range kinds() {
		m := middle(kind)
		for _, v := range [][]byte{nil, {}, make([]byte, 0, 5), []byte("xyz")[:0]} {
			m.Value = v
			is(t, m, seal(body(m)...))
		}
	}
}

// P8.1: Bad is OK or one of the verdicts on calls, nothing between or beyond.
func TestBad(t *testing.T) {
	m := middle(api.MsgAnswer)
	for n := -400; n < 800; n++ {
		m.Bad = api.Errno(n)
		if n == 0 || n >= 300 && n <= 307 {
			is(t, m, seal(body(m)...))
			continue
		}
		unwritten(t, "Bad", m, api.ErrMessageArg)
		if n > 0 {
			unread(t, "Bad", seal(body(m)...), api.ErrMessageForm)
		}
	}
}

// P8.1: the bytes are never more than MaxMessage.
func TestLongest(t *testing.T) {
	for _, kind := range kinds() {
		if b, e := message.Encode(most(kind)); e != api.OK || len(b) > api.MaxMessage {
			t.Errorf("kind %d: %d bytes, %d", kind, len(b), e)
		}
	}
}

// The chapter's table: Name and Other are any bytes, and so is Value.
func TestAnyBytes(t *testing.T) {
	for _, s := range []string{"", "\x00", "Ann", "a b\n", "\xff\xfe\x80", "\xed\xa0\x80", "é", "\"'\\"} {
		m := middle(api.MsgAsk)
		m.Name, m.Other = s, s+"x"
		is(t, m, seal(body(m)...))
		m = middle(api.MsgSettle)
		m.Name = s
		is(t, m, seal(body(m)...))
		m = middle(api.MsgWrite)
		m.Value = []byte(s)
		is(t, m, seal(body(m)...))
	}
}
