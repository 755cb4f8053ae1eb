package message_test

import (
	"encoding/binary"
	"encoding/hex"
	"fmt"
	"hash/crc32"
	"math"
	"math/rand"
	"reflect"
	"strings"
	"testing"

	"tally/api"
	"tally/message"
)

// part is a line of the chapter's table of fields, or half of one: its greatest number or length, and how it is set and laid down.
type part struct {
	name string
	most uint64
	set  func(m *api.Msg, n uint64)
	lay  func(b []byte, m api.Msg) []byte
}

func text(n uint64) string { return strings.Repeat("n", int(n)) }

func layText(b []byte, s string) []byte {
	return append(binary.AppendUvarint(b, uint64(len(s))), s...)
}

// parts: the table, in its order, told without the program's own means.
func parts() []part {
	lay := binary.AppendUvarint
	return []part{
		{"Epoch", api.MaxNumber, func(m *api.Msg, n uint64) { m.Epoch = n }, func(b []byte, m api.Msg) []byte { return lay(b, m.Epoch) }},
		{"Tag.Epoch", api.MaxNumber, func(m *api.Msg, n uint64) { m.Tag.Epoch = n }, func(b []byte, m api.Msg) []byte { return lay(b, m.Tag.Epoch) }},
		{"Tag.Seq", api.MaxNumber, func(m *api.Msg, n uint64) { m.Tag.Seq = n }, func(b []byte, m api.Msg) []byte { return lay(b, m.Tag.Seq) }},
		{"Round", api.MaxNumber, func(m *api.Msg, n uint64) { m.Round = n }, func(b []byte, m api.Msg) []byte { return lay(b, m.Round) }},
		{"Span", api.MaxPatience + 1, func(m *api.Msg, n uint64) { m.Span = int(n) }, func(b []byte, m api.Msg) []byte { return lay(b, uint64(m.Span)) }},
		{"Seen", api.MaxNumber, func(m *api.Msg, n uint64) { m.Seen = n }, func(b []byte, m api.Msg) []byte { return lay(b, m.Seen) }},
		{"Value", api.MaxValue, func(m *api.Msg, n uint64) { m.Value = []byte(text(n)) }, func(b []byte, m api.Msg) []byte { return layText(b, string(m.Value)) }},
		{"Peer", api.MaxShards - 1, func(m *api.Msg, n uint64) { m.Peer = int(n) }, func(b []byte, m api.Msg) []byte { return append(b, byte(m.Peer)) }},
		{"Number", api.MaxNumber, func(m *api.Msg, n uint64) { m.Number = n }, func(b []byte, m api.Msg) []byte { return lay(b, m.Number) }},
		{"Name", api.MaxName, func(m *api.Msg, n uint64) { m.Name = text(n) }, func(b []byte, m api.Msg) []byte { return layText(b, m.Name) }},
		{"Other", api.MaxName, func(m *api.Msg, n uint64) { m.Other = text(n) }, func(b []byte, m api.Msg) []byte { return layText(b, m.Other) }},
		{"Amount", api.MaxSupply, func(m *api.Msg, n uint64) { m.Amount = n }, func(b []byte, m api.Msg) []byte { return lay(b, m.Amount) }},
		{"Call.Life", api.MaxNumber, func(m *api.Msg, n uint64) { m.Call.Life = n }, func(b []byte, m api.Msg) []byte { return lay(b, m.Call.Life) }},
		{"Call.ID", api.MaxNumber, func(m *api.Msg, n uint64) { m.Call.ID = n }, func(b []byte, m api.Msg) []byte { return lay(b, m.Call.ID) }},
		{"Op", api.CallStatus, func(m *api.Msg, n uint64) { m.Op = int(n) }, func(b []byte, m api.Msg) []byte { return append(b, byte(m.Op)) }},
		{"Client", api.MaxClients - 1, func(m *api.Msg, n uint64) { m.Client = int(n) }, func(b []byte, m api.Msg) []byte { return append(b, byte(m.Client)) }},
		{"State", api.StateOld, func(m *api.Msg, n uint64) { m.State = int(n) }, func(b []byte, m api.Msg) []byte { return append(b, byte(m.State)) }},
		{"Bad", uint64(api.BadNumber), func(m *api.Msg, n uint64) { m.Bad = api.Errno(n) }, func(b []byte, m api.Msg) []byte { return lay(b, uint64(m.Bad)) }},
	}
}

// used: DOC.md's table of messages.
var used = map[int]string{
	api.MsgPrepare: "Epoch",
	api.MsgPromise: "Epoch Tag Value",
	api.MsgRefuse:  "Epoch Seen",
	api.MsgWrite:   "Tag Value Span",
	api.MsgWrote:   "Tag",
	api.MsgBeat:    "Epoch Round Span",
	api.MsgBeaten:  "Epoch Round",
	api.MsgSettle:  "Peer Number Name Amount",
	api.MsgSettled: "Peer Number",
	api.MsgAsk:     "Call Op Client Number Name Other Amount",
	api.MsgAnswer:  "Call State Bad Amount",
}

// uses tells whether a kind uses a part.
func uses(kind int, name string) bool {
	field, _, _ := strings.Cut(name, ".")
	return strings.Contains(" "+used[kind]+" ", " "+field+" ")
}

// usedParts: those of the table that a kind uses, in its order.
func usedParts(kind int) []part {
	var out []part
	for _, p := range parts() {
		if uses(kind, p.name) {
			out = append(out, p)
		}
	}
	return out
}

// kinds: all that there are.
func kinds() []int {
	var out []int
	for k := api.MsgPrepare; k <= api.MsgAnswer; k++ {
		out = append(out, k)
	}
	return out
}

func of(kind int) api.Msg {
	return api.Msg{Head: api.Head{Kind: kind, From: 1, To: 2, Shard: 3}}
}

// most: a message of a kind with all that it uses at its greatest.
func most(kind int) api.Msg {
	m := api.Msg{Head: api.Head{Kind: kind, From: api.MaxNodes - 1, To: api.MaxNodes - 1, Shard: api.MaxShards - 1}}
	for _, p := range usedParts(kind) {
		p.set(&m, p.most)
	}
	return m
}

// middle: a message of a kind with some number in all that it uses, each another one.
func middle(kind int) api.Msg {
	m := of(kind)
	for i, p := range usedParts(kind) {
		p.set(&m, min(p.most, uint64(2+i)))
	}
	if uses(kind, "Bad") {
		m.Bad = api.BadQueue
	}
	return m
}

// body: the bytes of a message ahead of its sum, whether or not it may be.
func body(m api.Msg) []byte {
	b := []byte{byte(m.Kind), byte(m.From), byte(m.To), byte(m.Shard)}
	for _, p := range usedParts(m.Kind) {
		b = p.lay(b, m)
	}
	return b
}

// seal: bytes with their sum.
func seal(b ...byte) []byte {
	return binary.BigEndian.AppendUint32(append([]byte(nil), b...), crc32.ChecksumIEEE(b))
}

func unhex(t *testing.T, s string) []byte {
	t.Helper()
	b, err := hex.DecodeString(strings.ReplaceAll(s, " ", ""))
	if err != nil {
		t.Fatal(err)
	}
	return b
}

// same: R3: no bytes are no bytes.
func same(a, b api.Msg) bool {
	if len(a.Value) == 0 && len(b.Value) == 0 {
		a.Value, b.Value = nil, nil
	}
	return reflect.DeepEqual(a, b)
}

// told: a message, cut where it grows too long to be looked at.
func told(m api.Msg) string { return fmt.Sprintf("%.300s", fmt.Sprintf("%+v", m)) }

// is holds both ways against each other: the message is written so, and read of that.
func is(t *testing.T, m api.Msg, want []byte) {
	t.Helper()
	if b, e := message.Encode(m); e != api.OK || string(b) != string(want) {
		t.Fatalf("Encode(%s): %.100x, %d, want %.100x", told(m), b, e, want)
	}
	if got, e := message.Decode(want); e != api.OK || !same(got, m) {
		t.Fatalf("Decode(%.100x): %s, %d, want %s", want, told(got), e, told(m))
	}
}

func unwritten(t *testing.T, what string, m api.Msg, want api.Errno) {
	t.Helper()
	if b, e := message.Encode(m); e != want || len(b) != 0 {
		t.Fatalf("Encode, %s, of %s: %.100x, %d, want %d and nothing", what, told(m), b, e, want)
	}
}

func unread(t *testing.T, what string, b []byte, want api.Errno) {
	t.Helper()
	if m, e := message.Decode(b); e != want || !same(m, api.Msg{}) {
		t.Fatalf("Decode, %s, of %.100x: %s, %d, want %d and nothing", what, b, told(m), e, want)
	}
}

// draw: a message that may be, numbers of all sizes and any bytes among its parts.
func draw(r *rand.Rand) api.Msg {
	m := api.Msg{Head: api.Head{Kind: 1 + r.Intn(11), From: r.Intn(api.MaxNodes), To: r.Intn(api.MaxNodes), Shard: r.Intn(api.MaxShards)}}
	for _, p := range usedParts(m.Kind) {
		p.set(&m, min(p.most, r.Uint64()>>r.Intn(64)&math.MaxInt))
	}
	if m.Bad != api.OK {
		m.Bad = api.BadAccount + api.Errno(r.Intn(8))
	}
	if r.Intn(4) > 0 {
		m.Value = m.Value[:r.Intn(1+len(m.Value))]
	}
	r.Read(m.Value)
	m.Name, m.Other = drawText(r, m.Name), drawText(r, m.Other)
	return m
}

// drawText: any bytes, at most as many as in s.
func drawText(r *rand.Rand, s string) string {
	b := make([]byte, r.Intn(1+len(s)))
	r.Read(b)
	return string(b)
}
