package node_test

import (
	"encoding/binary"
	"fmt"
	"strings"
	"testing"

	"tally/api"
	"tally/code"
	"tally/disk"
	"tally/journal"
	"tally/message"
	"tally/node"
	"tally/plane"
	"tally/shard"
)

// conf: the examples' configuration: the copies of both shards are 0, 2, 1; al is at home at 0, Zed and zoe at 1.
func conf() api.Config {
	return api.Config{Nodes: 3, Shards: 2, Copies: 3, Clients: 1, Queue: 4, Cap: 4, Flight: 100, Patience: 64, Accounts: []api.Account{{Name: "al", Balance: 100}, {Name: "Zed", Balance: 50}, {Name: "zoe", Balance: 7}}}
}

const room = 1 << 20

func empty(t *testing.T) *disk.Disk {
	t.Helper()
	return load(t, nil)
}

func load(t *testing.T, img []api.FileBytes) *disk.Disk {
	t.Helper()
	d, e := disk.Load(img, room)
	if e != api.OK {
		t.Fatalf("disk.Load: %d", e)
	}
	return d
}

func start(t *testing.T, c api.Config, me int, d *disk.Disk) *node.Node {
	t.Helper()
	n, e := node.Start(c, me, d)
	if n == nil || e != api.OK {
		t.Fatalf("Start: %d", e)
	}
	return n
}

// refused starts a node that does not start: the disk, if it may be read, stays as it is.
func refused(t *testing.T, what string, c api.Config, me int, d *disk.Disk, want api.Errno) {
	t.Helper()
	was := fmt.Sprint(d.Crash([]int{-1, -1, -1}))
	strokes := d.Strokes()
	if n, e := node.Start(c, me, d); n != nil || e != want {
		t.Fatalf("%s: Start: %v, %d, want %d", what, n != nil, e, want)
	}
	if now := fmt.Sprint(d.Crash([]int{-1, -1, -1})); now != was {
		t.Fatalf("%s: the disk was %s, is %s", what, was, now)
	}
	if want == api.ErrNodeConfig || want == api.ErrNodeDisk {
		if d.Strokes() != strokes {
			t.Fatalf("%s: %d strokes", what, d.Strokes()-strokes)
		}
		for s := range api.MaxShards {
			noneKept(t, what, c, me, d, s)
		}
	}
}

func noneKept(t *testing.T, what string, c api.Config, me int, d *disk.Disk, s int) {
	t.Helper()
	if x, ok := node.Kept(c, me, d, s); ok || !same(x, api.Stored{}) {
		t.Fatalf("%s: Kept(%d): %v, %v", what, s, x, ok)
	}
}

// laid is a disk with a journal of these transactions.
func laid(t *testing.T, rows ...[][]byte) *disk.Disk {
	t.Helper()
	d := empty(t)
	j, e := journal.Open(d, "node")
	for _, parts := range rows {
		if e == api.OK {
			e = j.Add(parts)
		}
	}
	if e != api.OK {
		t.Fatalf("journal: %d", e)
	}
	return d
}

// all is what a disk's journal has.
func all(t *testing.T, d *disk.Disk) [][][]byte {
	t.Helper()
	j, e := journal.Open(d, "node")
	if e != api.OK {
		t.Fatalf("journal.Open: %d", e)
	}
	return j.All()
}

// last is the last transaction of a disk's journal, in hexadecimal digits; and how many there are.
func last(t *testing.T, d *disk.Disk) (string, int) {
	t.Helper()
	l := all(t, d)
	return fmt.Sprintf("%x", l[len(l)-1]), len(l)
}

// row is one transaction of these parts, in hexadecimal digits.
func row(parts ...[]byte) string { return fmt.Sprintf("%x", parts) }

func lifePart(life uint64) []byte { return binary.BigEndian.AppendUint64([]byte{1}, life) }

func copyPart(s int, x api.Stored) []byte {
	b := []byte{2, byte(s)}
	for _, n := range []uint64{x.Promised, x.Tag.Epoch, x.Tag.Seq} {
		b = binary.BigEndian.AppendUint64(b, n)
	}
	return append(binary.AppendUvarint(b, uint64(len(x.Value))), x.Value...)
}

func stored(promised, epoch, seq uint64, value string) api.Stored {
	return api.Stored{Promised: promised, Tag: api.Tag{Epoch: epoch, Seq: seq}, Value: []byte(value)}
}

// firstValue is the value of a shard's first book.
func firstValue(c api.Config, s int) string { return string(shard.Encode(shard.New(c, s))) }

func same(a, b api.Stored) bool {
	return a.Promised == b.Promised && a.Tag == b.Tag && string(a.Value) == string(b.Value)
}

// keeps holds what the node keeps of a shard, and what its disk does, against what they should.
func keeps(t *testing.T, what string, n *node.Node, c api.Config, me int, d *disk.Disk, s int, want api.Stored) {
	t.Helper()
	if x, ok := n.Stored(s); !ok || !same(x, want) {
		t.Fatalf("%s: Stored(%d): %v, %v, want %v", what, s, x, ok, want)
	}
	if x, ok := node.Kept(c, me, d, s); !ok || !same(x, want) {
		t.Fatalf("%s: Kept(%d): %v, %v, want %v", what, s, x, ok, want)
	}
}

func role(t *testing.T, what string, n *node.Node, s, phase int, holds bool, epoch uint64) {
	t.Helper()
	if p, h, e := n.Role(s); p != phase || h != holds || e != epoch {
		t.Fatalf("%s: Role(%d): %d, %v, %d, want %d, %v, %d", what, s, p, h, e, phase, holds, epoch)
	}
}

func copiesOf(t *testing.T, c api.Config, s int) []int {
	t.Helper()
	l, e := plane.Copies(s, c.Nodes, c.Copies)
	if e != api.OK {
		t.Fatalf("plane.Copies: %d", e)
	}
	return l
}

func head(kind, from, to, shard int) api.Head {
	return api.Head{Kind: kind, From: from, To: to, Shard: shard}
}

func prepare(from, to, shard int, epoch uint64) api.Msg {
	return api.Msg{Head: head(api.MsgPrepare, from, to, shard), Epoch: epoch}
}

func refuse(from, to, shard int, epoch, seen uint64) api.Msg {
	return api.Msg{Head: head(api.MsgRefuse, from, to, shard), Epoch: epoch, Seen: seen}
}

func promise(from, to, shard int, epoch uint64, x api.Stored) api.Msg {
	return api.Msg{Head: head(api.MsgPromise, from, to, shard), Epoch: epoch, Tag: x.Tag, Value: x.Value}
}

func write(from, to, shard int, epoch, seq uint64, value string, span int) api.Msg {
	return api.Msg{Head: head(api.MsgWrite, from, to, shard), Tag: api.Tag{Epoch: epoch, Seq: seq}, Value: []byte(value), Span: span}
}

func wrote(from, to, shard int, epoch, seq uint64) api.Msg {
	return api.Msg{Head: head(api.MsgWrote, from, to, shard), Tag: api.Tag{Epoch: epoch, Seq: seq}}
}

func beat(from, to, shard int, epoch, round uint64, span int) api.Msg {
	return api.Msg{Head: head(api.MsgBeat, from, to, shard), Epoch: epoch, Round: round, Span: span}
}

func beaten(from, to, shard int, epoch, round uint64) api.Msg {
	return api.Msg{Head: head(api.MsgBeaten, from, to, shard), Epoch: epoch, Round: round}
}

func ask(from, to, shard int, life, id uint64, r api.Request) api.Msg {
	return api.Msg{Head: head(api.MsgAsk, from, to, shard), Call: api.Call{Life: life, ID: id}, Op: r.Op, Client: r.Client, Number: r.Number, Name: r.Name, Other: r.Other, Amount: r.Amount}
}

func settle(from, to, source, peer int, number uint64, name string, amount uint64) api.Msg {
	return api.Msg{Head: head(api.MsgSettle, from, to, source), Peer: peer, Number: number, Name: name, Amount: amount}
}

func settled(from, to, source, peer int, number uint64) api.Msg {
	return api.Msg{Head: head(api.MsgSettled, from, to, source), Peer: peer, Number: number}
}

func answer(from, to, shard int, life, id, amount uint64) api.Msg {
	return api.Msg{Head: head(api.MsgAnswer, from, to, shard), Call: api.Call{Life: life, ID: id}, Amount: amount}
}

func balance(name string) api.Request { return api.Request{Op: api.CallBalance, Name: name} }

func submit(number uint64, name, other string, amount uint64) api.Request {
	return api.Request{Op: api.CallSubmit, Number: number, Name: name, Other: other, Amount: amount}
}

func say(t *testing.T, m api.Msg) []byte {
	t.Helper()
	b, e := message.Encode(m)
	if e != api.OK {
		t.Fatalf("Encode(%+v): %d", m, e)
	}
	return b
}

// spell: flights, each a To and its message.
func spell(t *testing.T, l []api.Flight) string {
	t.Helper()
	var out []string
	for _, f := range l {
		m, e := message.Decode(f.Bytes)
		if e != api.OK {
			t.Fatalf("a flight of %x: %d", f.Bytes, e)
		}
		out = append(out, fmt.Sprintf("to %d: %s", f.To, tell(m)))
	}
	return strings.Join(out, "\n")
}

func tell(m api.Msg) string { return fmt.Sprintf("%+v", m) }

// are holds flights against messages.
func are(t *testing.T, what string, got []api.Flight, want ...api.Msg) {
	t.Helper()
	var l []string
	for _, m := range want {
		m.Value = append([]byte{}, m.Value...)
		back, _ := message.Decode(say(t, m))
		l = append(l, fmt.Sprintf("to %d: %s", m.To, tell(back)))
	}
	if g, w := spell(t, got), strings.Join(l, "\n"); g != w || len(got) != len(want) {
		t.Fatalf("%s:\n%s\nwant\n%s", what, g, w)
	}
}

// hears makes a node hear a message, and holds its flights against those that it should tell.
func hears(t *testing.T, what string, n *node.Node, m api.Msg, want ...api.Msg) {
	t.Helper()
	l, done, e := n.Hear(say(t, m))
	if len(done) != 0 || e != api.OK {
		t.Fatalf("%s: Hear: %v, %d", what, done, e)
	}
	are(t, what, l, want...)
}

func ticks(t *testing.T, what string, n *node.Node, want ...api.Msg) {
	t.Helper()
	l, e := n.Tick()
	if e != api.OK {
		t.Fatalf("%s: Tick: %d", what, e)
	}
	are(t, what, l, want...)
}

// lapse lets a node tick so often, at first: it tells nothing by that.
func lapse(t *testing.T, n *node.Node, times int) {
	t.Helper()
	for range times {
		ticks(t, "at first", n)
	}
}

// isDown holds a node against one that is down, of that life.
func isDown(t *testing.T, what string, n *node.Node, life uint64) {
	t.Helper()
	for _, b := range [][]byte{nil, []byte("?"), say(t, prepare(0, 1, 0, 7)), say(t, answer(0, 1, 0, life, 1, 9))} {
		if l, done, e := n.Hear(b); len(l) != 0 || len(done) != 0 || e != api.ErrNodeDown {
			t.Fatalf("%s: Hear(%x): %v, %v, %d", what, b, l, done, e)
		}
	}
	if l, e := n.Tick(); len(l) != 0 || e != api.ErrNodeDown {
		t.Fatalf("%s: Tick: %v, %d", what, l, e)
	}
	for _, r := range []api.Request{balance("al"), {}} {
		if id, l, e := n.Call(r); id != 0 || len(l) != 0 || e != api.ErrNodeDown {
			t.Fatalf("%s: Call: %d, %v, %d", what, id, l, e)
		}
	}
	if n.Life() != life {
		t.Fatalf("%s: Life: %d, want %d", what, n.Life(), life)
	}
	for s := range api.MaxShards {
		if x, ok := n.Stored(s); ok || !same(x, api.Stored{}) {
			t.Fatalf("%s: Stored(%d): %v", what, s, x)
		}
		role(t, what, n, s, api.PhaseIdle, false, 0)
	}
}

// record is a transaction of a journal as the journal's chapter lays it, with any number.
func record(number uint64, parts ...[]byte) []byte {
	body := binary.BigEndian.AppendUint64(nil, number)
	body = binary.BigEndian.AppendUint32(body, uint32(len(parts)))
	for _, p := range parts {
		body = append(binary.AppendUvarint(body, uint64(len(p))), p...)
	}
	out := binary.BigEndian.AppendUint64([]byte{0xa7}, uint64(len(body)))
	out = binary.BigEndian.AppendUint32(out, code.Sum(out))
	out = append(out, body...)
	return append(binary.BigEndian.AppendUint32(out, code.Sum(body)), 0x5a)
}
