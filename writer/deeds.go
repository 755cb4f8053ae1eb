package writer

import (
	"tally/api"
	"tally/shard"
)

// deed is what may be done to a holder's book.
type deed interface {
	// carryOut tells the book behind it, and whether that is another one.
	carryOut(c api.Config, b api.Book) (api.Book, bool)
	// answer tells what is said of it, by the holder's book: when it has changed nothing, or when what it has changed is chosen.
	answer(b api.Book) []api.Msg
}

// submit is an ask to submit. Its verdict is laid into the answer when it is carried out.
type submit struct {
	request api.Request
	back    api.Msg
}

func newSubmit(m api.Msg) *submit {
	return &submit{request: requestOf(m), back: answerTo(m)}
}

func (d *submit) carryOut(c api.Config, b api.Book) (api.Book, bool) {
	b, bad, changed := shard.Submit(c, b, d.request)
	d.back.Bad = bad
	return b, changed
}

func (d *submit) answer(api.Book) []api.Msg { return []api.Msg{d.back} }

// same tells whether another one is of the same request.
func (d *submit) same(o *submit) bool {
	return d.request.Client == o.request.Client && d.request.Number == o.request.Number
}

// credit is a settle.
type credit struct {
	entry api.Entry
	back  api.Msg // about the source; but for the mark
}

func newCredit(m api.Msg) *credit {
	back := backTo(m, api.MsgSettled)
	back.Peer = m.Peer
	return &credit{entry: api.Entry{Peer: m.Peer, Number: m.Number, Name: m.Name, Amount: m.Amount}, back: back}
}

func (d *credit) carryOut(c api.Config, b api.Book) (api.Book, bool) {
	return shard.Credit(c, b, d.back.Shard, d.entry)
}

// answer tells the mark, and not the entry's own number: all up to the mark are credited, and no more.
func (d *credit) answer(b api.Book) []api.Msg {
	back := d.back
	back.Number = b.Marks[back.Shard]
	return []api.Msg{back}
}

// settled is one that says up to which number a peer's entries are credited.
type settled struct {
	peer   int
	number uint64
}

func newSettled(m api.Msg) settled { return settled{peer: m.Peer, number: m.Number} }

func (d settled) carryOut(_ api.Config, b api.Book) (api.Book, bool) {
	return shard.Settled(b, d.peer, d.number)
}

func (settled) answer(api.Book) []api.Msg { return nil }

// backTo makes a message of a kind that goes back where m came from.
func backTo(m api.Msg, kind int) api.Msg {
	return api.Msg{Head: api.Head{Kind: kind, From: m.To, To: m.From, Shard: m.Shard}}
}

// answerTo makes the answer to an ask, but for what it says.
func answerTo(m api.Msg) api.Msg {
	back := backTo(m, api.MsgAnswer)
	back.Call = m.Call
	return back
}

func requestOf(m api.Msg) api.Request {
	return api.Request{Op: m.Op, Client: m.Client, Number: m.Number, Name: m.Name, Other: m.Other, Amount: m.Amount}
}
