package shard_test

import (
	"encoding/binary"
	"fmt"
	"maps"
	"slices"
	"testing"

	"tally/api"
	"tally/shard"
	"tally/text"
)

// bank: the examples' configuration. Of two shards al has the home 0, Zed and zoe have the home 1.
func bank() api.Config {
	return api.Config{Nodes: 1, Shards: 2, Copies: 1, Clients: 2, Queue: 2, Cap: 1, Patience: 4, Flight: 1, Accounts: []api.Account{{Name: "al", Balance: 10}, {Name: "Zed", Balance: 5}, {Name: "zoe", Balance: 7}}}
}

func pay(client int, number uint64, from, to string, amount uint64) api.Request {
	return api.Request{Op: api.CallSubmit, Client: client, Number: number, Name: from, Other: to, Amount: amount}
}

func entry(peer int, number uint64, name string, amount uint64) api.Entry {
	return api.Entry{Peer: peer, Number: number, Name: name, Amount: amount}
}

// told: a book in a line; a nil list and an empty one are told alike.
func told(b api.Book) string {
	return fmt.Sprintf("shard %d accounts %v queue %v next %v marks %v slots %v", b.Shard, b.Accounts, b.Queue, b.Next, b.Marks, b.Slots)
}

func is(t *testing.T, what string, got api.Book, want string) {
	t.Helper()
	if told(got) != want {
		t.Fatalf("%s:\n%s, want\n%s", what, told(got), want)
	}
}

// submits holds what a request does against what it is to do: the verdict, whether the book is another one, and the book.
func submits(t *testing.T, c api.Config, b api.Book, r api.Request, bad api.Errno, done bool, want string) api.Book {
	t.Helper()
	got, e, ok := shard.Submit(c, b, r)
	if e != bad || ok != done || told(got) != want {
		t.Fatalf("%s submits %+v:\n%d %v %s, want\n%d %v %s", told(b), r, e, ok, told(got), bad, done, want)
	}
	return got
}

// clone: a book that shares nothing with another one.
func clone(b api.Book) api.Book {
	b.Accounts, b.Queue, b.Slots = slices.Clone(b.Accounts), slices.Clone(b.Queue), slices.Clone(b.Slots)
	b.Next, b.Marks = slices.Clone(b.Next), slices.Clone(b.Marks)
	return b
}

// names: so many good names of a home, no two of one account, in the order of their folds.
func names(count, home, shards int) []string {
	var out []string
	for i := 0; len(out) < count; i++ {
		if n := fmt.Sprintf("N%04d", i); text.Home(n, shards) == home {
			out = append(out, n)
		}
	}
	return out
}

// bytesOf: a book as chapter 12 tells its bytes, whether or not it may be, as far as they can tell it.
func bytesOf(b api.Book) []byte {
	out := []byte{byte(b.Shard)}
	vari := func(n uint64) { out = binary.AppendUvarint(out, n) }
	name := func(s string) { vari(uint64(len(s))); out = append(out, s...) }
	vari(uint64(len(b.Accounts)))
	for _, a := range b.Accounts {
		name(a.Name)
		vari(a.Balance)
	}
	vari(uint64(len(b.Queue)))
	for _, e := range b.Queue {
		out = append(out, byte(e.Peer))
		vari(e.Number)
		name(e.Name)
		vari(e.Amount)
	}
	vari(uint64(len(b.Next)))
	for i := range b.Next {
		vari(b.Next[i])
		vari(b.Marks[i])
	}
	vari(uint64(len(b.Slots)))
	for _, s := range b.Slots {
		vari(s.Number)
		vari(uint64(s.Bad))
		out = append(out, byte(s.Peer))
		vari(s.Entry)
	}
	return out
}

// tellable: whether bytes can tell a book's numbers of shards and its lists.
func tellable(b api.Book) bool {
	l := []int{b.Shard}
	for _, e := range b.Queue {
		l = append(l, e.Peer)
	}
	for _, s := range b.Slots {
		l = append(l, s.Peer)
	}
	return slices.Min(l) >= 0 && slices.Max(l) < 256 && len(b.Next) == len(b.Marks)
}

// fault: why a book may not be, by P12.2, clause by clause; none, if it may.
func fault(b api.Book) string {
	shards := len(b.Next)
	if shards != len(b.Marks) || shards < 1 || shards > 8 || b.Shard < 0 || b.Shard >= shards {
		return "shards"
	}
	others := map[int]bool{}
	for k := range shards {
		others[k] = k != b.Shard
	}
	all, last := uint64(0), ""
	for i, a := range b.Accounts {
		f := text.Fold(a.Name)
		if i >= 64 || text.Check(a.Name) != api.OK || text.Home(a.Name, shards) != b.Shard {
			return "accounts"
		}
		if i > 0 && f <= last || a.Balance > 1<<53 || all+a.Balance > 1<<53 {
			return "accounts"
		}
		all, last = all+a.Balance, f
	}
	for k := range shards {
		if b.Next[k] < 1 || b.Next[k] > 1<<40 || b.Marks[k] > 1<<40 {
			return "numbers"
		}
	}
	if b.Next[b.Shard] != 1 || b.Marks[b.Shard] != 0 {
		return "own numbers"
	}
	if why := queueFault(b, others); why != "" {
		return why
	}
	return slotsFault(b, others)
}

func queueFault(b api.Book, others map[int]bool) string {
	if len(b.Queue) > 16 {
		return "queue"
	}
	rows := map[int][]uint64{}
	for _, e := range b.Queue {
		if !others[e.Peer] || text.Check(e.Name) != api.OK || text.Home(e.Name, len(b.Next)) != e.Peer || e.Amount < 1 || e.Amount > 1<<53 {
			return "entry"
		}
		rows[e.Peer] = append(rows[e.Peer], e.Number)
	}
	for peer, l := range rows {
		if l[0] < 1 || l[len(l)-1] != b.Next[peer]-1 {
			return "row"
		}
		for i := range l[1:] {
			if l[i+1] < l[i] || l[i+1]-l[i] != 1 {
				return "row"
			}
		}
	}
	return ""
}

func slotsFault(b api.Book, others map[int]bool) string {
	if len(b.Slots) < 1 || len(b.Slots) > 8 {
		return "slots"
	}
	for _, s := range b.Slots {
		if s.Number > 1<<40 || s.Number == 0 && s != (api.Slot{}) {
			return "slot"
		}
		if !slices.Contains([]api.Errno{0, 300, 301, 302, 303, 304, 305, 307}, s.Bad) {
			return "verdict"
		}
		none := s.Entry == 0 && s.Peer == 0
		if some := others[s.Peer] && s.Entry >= 1 && s.Entry < b.Next[s.Peer] && s.Bad == 0; !none && !some {
			return "slot's entry"
		}
	}
	return ""
}

// model: a book as the chapter tells it, in maps: accounts by their folds, numbers by shard, slots by client.
type model struct {
	c       api.Config
	shard   int
	has     map[string]uint64
	spelled map[string]string
	queue   []api.Entry
	next    map[int]uint64
	marks   map[int]uint64
	slots   map[int]api.Slot
}

func modelOf(c api.Config, b api.Book) *model {
	m := &model{c, b.Shard, map[string]uint64{}, map[string]string{}, slices.Clone(b.Queue), map[int]uint64{}, map[int]uint64{}, map[int]api.Slot{}}
	for _, a := range b.Accounts {
		m.has[text.Fold(a.Name)], m.spelled[text.Fold(a.Name)] = a.Balance, a.Name
	}
	for k := range b.Next {
		m.next[k], m.marks[k] = b.Next[k], b.Marks[k]
	}
	for k, s := range b.Slots {
		m.slots[k] = s
	}
	return m
}

func (m *model) book() api.Book {
	b := api.Book{Shard: m.shard, Queue: slices.Clone(m.queue)}
	for _, f := range slices.Sorted(maps.Keys(m.has)) {
		b.Accounts = append(b.Accounts, api.Account{Name: m.spelled[f], Balance: m.has[f]})
	}
	for k := range len(m.next) {
		b.Next, b.Marks = append(b.Next, m.next[k]), append(b.Marks, m.marks[k])
	}
	for k := range len(m.slots) {
		b.Slots = append(b.Slots, m.slots[k])
	}
	return b
}

func (m *model) submit(r api.Request) (api.Errno, bool) {
	s, there := m.slots[r.Client]
	if !there || r.Number == 0 || r.Number > 1<<40 {
		return 307, false
	}
	if r.Number < s.Number {
		return 306, false
	}
	if r.Number == s.Number {
		return s.Bad, false
	}
	from, to := text.Fold(r.Name), text.Fold(r.Other)
	bad := m.verdict(r, from, to)
	s = api.Slot{Number: r.Number, Bad: bad}
	if bad == 0 {
		m.has[from] -= r.Amount
		if _, here := m.has[to]; here {
			m.has[to] += r.Amount
		} else {
			s.Peer = text.Home(to, m.c.Shards)
			s.Entry = m.next[s.Peer]
			m.next[s.Peer]++
			m.queue = append(m.queue, api.Entry{Peer: s.Peer, Number: s.Entry, Name: m.spelling(to), Amount: r.Amount})
		}
	}
	m.slots[r.Client] = s
	return bad, true
}

// spelling: how the configuration spells a name; empty, if it has none of it.
func (m *model) spelling(fold string) string {
	for _, a := range m.c.Accounts {
		if text.Fold(a.Name) == fold {
			return a.Name
		}
	}
	return ""
}

func (m *model) verdict(r api.Request, from, to string) api.Errno {
	supply := uint64(0)
	for _, a := range m.c.Accounts {
		supply += a.Balance
	}
	_, pays := m.has[from]
	_, here := m.has[to]
	home := text.Home(to, m.c.Shards)
	if !pays || m.spelling(to) == "" || home == m.shard && !here {
		return 300
	}
	if r.Amount == 0 {
		return 301
	}
	if from == to {
		return 302
	}
	if r.Amount > supply {
		return 303
	}
	if r.Amount > m.has[from] {
		return 304
	}
	if home != m.shard && len(m.queue) >= m.c.Queue {
		return 305
	}
	if home != m.shard && m.next[home] == 1<<40 {
		return 307
	}
	return 0
}

func (m *model) credit(source int, e api.Entry) bool {
	_, there := m.marks[source]
	_, known := m.has[text.Fold(e.Name)]
	if !there || source == m.shard || e.Peer != m.shard || e.Number != m.marks[source]+1 || e.Number > 1<<40 || !known || e.Amount == 0 || e.Amount > 1<<53 {
		return false
	}
	all := e.Amount
	for _, n := range m.has {
		all += n
	}
	if all > 1<<53 {
		return false
	}
	m.has[text.Fold(e.Name)] += e.Amount
	m.marks[source] = e.Number
	return true
}

func (m *model) settled(peer int, number uint64) bool {
	var l []api.Entry
	for _, e := range m.queue {
		if e.Peer == peer && e.Number <= number {
			continue
		}
		l = append(l, e)
	}
	some := len(l) != len(m.queue)
	m.queue = l
	return some
}

func (m *model) status(client int, number uint64) (int, api.Errno) {
	s, there := m.slots[client]
	if !there || number == 0 || number > s.Number {
		return 0, 0
	}
	if number < s.Number {
		return 4, 0
	}
	if s.Bad != 0 {
		return 1, s.Bad
	}
	for _, e := range m.queue {
		if e.Peer == s.Peer && e.Number == s.Entry {
			return 2, 0
		}
	}
	return 3, 0
}
