package shard_test

import (
	"fmt"
	"math"
	"math/rand"
	"runtime"
	"slices"
	"strings"
	"testing"

	"tally/api"
	"tally/shard"
	"tally/text"
)

// spell: the same account by other letters, or none at all.
func spell(r *rand.Rand, name string) string {
	switch r.Intn(8) {
	case 0:
		return strings.ToUpper(name)
	case 1:
		return strings.ToLower(name)
	case 2:
		return name + "x"
	}
	return name
}

// drawConfig: a configuration that may be, with few accounts.
func drawConfig(r *rand.Rand) api.Config {
	c := api.Config{Shards: 1 + r.Intn(4), Clients: 1 + r.Intn(3), Queue: 1 + r.Intn(4)}
	for i := range r.Intn(10) {
		c.Accounts = append(c.Accounts, api.Account{Name: fmt.Sprintf("%c%c%d", "aBcD"[r.Intn(4)], []rune("xYéÉ")[r.Intn(4)], i), Balance: uint64(r.Intn(20))})
	}
	if r.Intn(8) == 0 && len(c.Accounts) > 0 {
		c.Accounts[0].Balance = api.MaxSupply - 200
	}
	return c
}

// drawBook: a book that may be of a shard of the configuration; its accounts are not quite the configuration's.
func drawBook(r *rand.Rand, c api.Config) api.Book {
	b := shard.New(c, r.Intn(c.Shards))
	if len(b.Accounts) > 0 && r.Intn(3) == 0 {
		b.Accounts = slices.Delete(b.Accounts, 0, 1)
	}
	if n := "zzz"; text.Home(n, c.Shards) == b.Shard {
		b.Accounts = append(b.Accounts, api.Account{Name: n, Balance: 7})
	}
	if r.Intn(6) == 0 && len(b.Accounts) > 0 && sumOf(b) < 200 {
		b.Accounts[0].Balance = api.MaxSupply - 200
	}
	for k := range b.Next {
		if k != b.Shard {
			b.Next[k] = []uint64{1, 2, 3, 9, api.MaxNumber - 2, api.MaxNumber - 1, api.MaxNumber}[r.Intn(7)]
			b.Marks[k] = []uint64{0, 1, 2, 9, api.MaxNumber - 2, api.MaxNumber - 1, api.MaxNumber}[r.Intn(7)]
		}
	}
	drawQueue(r, c, &b)
	for i := range b.Slots {
		drawSlot(r, &b, &b.Slots[i])
	}
	return b
}

func drawQueue(r *rand.Rand, c api.Config, b *api.Book) {
	var peers []int
	left := map[int]uint64{}
	for range r.Intn(5) {
		if k := r.Intn(c.Shards); k != b.Shard && left[k] < b.Next[k]-1 {
			left[k]++
			peers = append(peers, k)
		}
	}
	for _, k := range peers {
		b.Queue = append(b.Queue, entry(k, b.Next[k]-left[k], names(1, k, c.Shards)[0], 1+uint64(r.Intn(9))))
		left[k]--
	}
}

func drawSlot(r *rand.Rand, b *api.Book, s *api.Slot) {
	switch r.Intn(4) {
	case 0:
		*s = api.Slot{Number: 1 + uint64(r.Intn(9)), Bad: []api.Errno{0, 300, 301, 302, 303, 304, 305, 307}[r.Intn(8)]}
	case 1:
		if k := r.Intn(len(b.Next)); k != b.Shard && b.Next[k] > 1 {
			*s = api.Slot{Number: 1 + uint64(r.Intn(9)), Peer: k, Entry: b.Next[k] - min(b.Next[k]-1, 1+uint64(r.Intn(4)))}
		}
	case 2:
		*s = api.Slot{Number: api.MaxNumber - uint64(r.Intn(2))}
	}
}

func drawName(r *rand.Rand, c api.Config, b api.Book) string {
	l := append(slices.Clone(c.Accounts), b.Accounts...)
	l = append(l, b.Accounts...)
	if len(l) == 0 || r.Intn(10) == 0 {
		return "nobody"
	}
	return spell(r, l[r.Intn(len(l))].Name)
}

func drawAmount(r *rand.Rand) uint64 {
	if r.Intn(8) == 0 {
		return []uint64{api.MaxSupply - 200, api.MaxSupply, api.MaxSupply + 1, 1 << 63, math.MaxUint64}[r.Intn(5)]
	}
	return uint64(r.Intn(9))
}

func drawRequest(r *rand.Rand, c api.Config, b api.Book) api.Request {
	out := pay(r.Intn(c.Clients+1), uint64(r.Intn(14)), drawName(r, c, b), drawName(r, c, b), drawAmount(r))
	if r.Intn(8) == 0 {
		out.Number = api.MaxNumber - 1 + uint64(r.Intn(3))
	}
	out.Op = r.Intn(5)
	return out
}

func sumOf(b api.Book) uint64 {
	all := uint64(0)
	for _, a := range b.Accounts {
		all += a.Balance
	}
	for _, e := range b.Queue {
		all += e.Amount
	}
	return all
}

// step does one drawn thing to a book and to the model beside it, and tells what became of it.
func step(t *testing.T, r *rand.Rand, c api.Config, b api.Book, m *model) (api.Book, string) {
	was := clone(b)
	var got api.Book
	var ok, want bool
	var what, how string
	gain := uint64(0)
	switch r.Intn(5) {
	case 0, 1:
		q := drawRequest(r, c, b)
		var bad, wantBad api.Errno
		got, bad, ok = shard.Submit(c, b, q)
		wantBad, want = m.submit(q)
		if bad != wantBad {
			t.Fatalf("P12.4: %s submits %+v: %d, want %d", told(b), q, bad, wantBad)
		}
		what, how = fmt.Sprintf("submit %+v", q), fmt.Sprintf("submit %d %v", bad, ok)
		again, same, more := shard.Submit(c, got, q)
		if ok && (same != bad || more || told(again) != told(got)) {
			t.Fatalf("P12.9: %s submitted again: %d %v", told(got), same, more)
		}
	case 2, 3:
		source := r.Intn(c.Shards+2) - 1
		e := entry(b.Shard, uint64(r.Intn(12)), drawName(r, c, b), drawAmount(r))
		if source >= 0 && source < c.Shards && r.Intn(8) > 0 {
			e.Number = b.Marks[source] + 1
		}
		if r.Intn(10) == 0 {
			e.Peer = r.Intn(c.Shards)
		}
		got, ok = shard.Credit(c, b, source, e)
		if want = m.credit(source, e); want {
			gain = e.Amount
		}
		what, how = fmt.Sprintf("credit %d %v", source, e), fmt.Sprintf("credit %v", ok)
	case 4:
		peer, number := r.Intn(c.Shards+2)-1, uint64(r.Intn(12))
		if peer >= 0 && peer < c.Shards && r.Intn(2) == 0 {
			number = b.Next[peer] - uint64(r.Intn(2))
		}
		got, ok = shard.Settled(b, peer, number)
		want = m.settled(peer, number)
		for _, e := range b.Queue {
			if e.Peer == peer && e.Number <= number {
				gain -= e.Amount
			}
		}
		what, how = fmt.Sprintf("settled %d %d", peer, number), fmt.Sprintf("settled %v", ok)
	}
	if ok != want || told(got) != told(m.book()) || told(b) != told(was) {
		t.Fatalf("P12.4 to P12.8: %s: %s: %v\n%s, want %v\n%s", told(was), what, ok, told(got), want, told(m.book()))
	}
	if !ok && told(got) != told(was) {
		t.Fatalf("P12.8: %s: %s: false, and %s", told(was), what, told(got))
	}
	if sumOf(got) != sumOf(was)+gain {
		t.Fatalf("P12.9: %s: %s: %s", told(was), what, told(got))
	}
	if why := fault(got); why != "" {
		t.Fatalf("P12.8: %s: %s: a book that may not be (%s): %s", told(was), what, why, told(got))
	}
	return got, how
}

// P12.4 to P12.9: drawn books, and a row of drawn deeds to each, held against the test's own telling.
func TestDrawn(t *testing.T) {
	r := rand.New(rand.NewSource(124))
	seen := map[string]int{}
	for range 6000 {
		c := drawConfig(r)
		b := drawBook(r, c)
		may(t, "drawn", b, true)
		m := modelOf(c, b)
		for range 8 {
			var how string
			b, how = step(t, r, c, b, m)
			seen[how]++
			looks(t, r, c, b, m, seen)
		}
		may(t, "behind deeds", b, true)
	}
	for _, how := range []string{"submit 0 true", "submit 0 false", "submit 300 true", "submit 301 true", "submit 302 true", "submit 303 true", "submit 304 true", "submit 305 true", "submit 306 false", "submit 307 false", "submit 307 true", "credit true", "credit false", "settled true", "settled false", "balance 0", "balance 300", "status 0 0", "status 1 304", "status 2 0", "status 3 0", "status 4 0"} {
		if seen[how] < 20 {
			t.Errorf("only %d of %s", seen[how], how)
		}
	}
}

// looks holds Balance and Status against the model.
func looks(t *testing.T, r *rand.Rand, c api.Config, b api.Book, m *model, seen map[string]int) {
	name := drawName(r, c, b)
	n, bad := shard.Balance(b, name)
	want, there := m.has[text.Fold(name)]
	if n != want || there != (bad == api.OK) || !there && bad != api.BadAccount {
		t.Fatalf("P12.7: %s: %s: %d, %d", told(b), name, n, bad)
	}
	seen[fmt.Sprintf("balance %d", bad)]++
	client, number := r.Intn(c.Clients+2)-1, uint64(r.Intn(12))
	if client >= 0 && client < c.Clients && r.Intn(2) == 0 {
		number = b.Slots[client].Number
	}
	state, bad := shard.Status(b, client, number)
	if s, e := m.status(client, number); s != state || e != bad {
		t.Fatalf("P12.7: %s: %d %d: %d, %d, want %d, %d", told(b), client, number, state, bad, s, e)
	}
	seen[fmt.Sprintf("status %d %d", state, bad)]++
}

// odd: numbers of all sizes.
func odd(r *rand.Rand) uint64 {
	return []uint64{0, 1, 2, uint64(r.Intn(9)), api.MaxNumber, api.MaxSupply, 1 << 62, 1 << 63, math.MaxInt64, math.MaxUint64, math.MaxUint64 - 1}[r.Intn(11)]
}

func oddName(r *rand.Rand) string {
	return []string{"", "al", "AL", "zoe", "Zed", "\xff", "a b", strings.Repeat("n", 70)}[r.Intn(8)]
}

// anything: a book that nobody made.
func anything(r *rand.Rand) api.Book {
	b := api.Book{Shard: int(odd(r))}
	for range r.Intn(4) {
		b.Accounts = append(b.Accounts, api.Account{Name: oddName(r), Balance: odd(r)})
	}
	for range r.Intn(4) {
		b.Queue = append(b.Queue, api.Entry{Peer: int(odd(r)), Number: odd(r), Name: oddName(r), Amount: odd(r)})
	}
	for range r.Intn(4) {
		b.Next = append(b.Next, odd(r))
	}
	for range r.Intn(4) {
		b.Marks = append(b.Marks, odd(r))
	}
	for range r.Intn(4) {
		b.Slots = append(b.Slots, api.Slot{Number: odd(r), Bad: api.Errno(odd(r)), Peer: int(odd(r)), Entry: odd(r)})
	}
	return b
}

// R1: every call ends and does not panic, whatever book and configuration; a book that may not be has no bytes.
func TestAnything(t *testing.T) {
	r := rand.New(rand.NewSource(125))
	for range 60000 {
		b := anything(r)
		c := api.Config{Shards: int(odd(r)), Clients: int(odd(r)), Queue: int(odd(r)), Accounts: anything(r).Accounts}
		was := told(b)
		shard.New(c, int(odd(r)))
		shard.Submit(c, b, api.Request{Op: int(odd(r)), Client: int(odd(r)), Number: odd(r), Name: oddName(r), Other: oddName(r), Amount: odd(r)})
		shard.Credit(c, b, int(odd(r)), api.Entry{Peer: int(odd(r)), Number: odd(r), Name: oddName(r), Amount: odd(r)})
		shard.Settled(b, int(odd(r)), odd(r))
		shard.Balance(b, oddName(r))
		shard.Status(b, int(odd(r)), odd(r))
		if l := shard.Encode(b); (len(l) > 0) != (fault(b) == "") || told(b) != was {
			t.Fatalf("P12.3: %s: %x", told(b), l)
		}
	}
}

// R1: no number lets memory grow: it is less than what a thousand books need.
func TestNoMemory(t *testing.T) {
	var ahead, behind runtime.MemStats
	runtime.ReadMemStats(&ahead)
	for _, n := range []int{math.MinInt, -1, 0, 9, 1 << 31, 1 << 62, math.MaxInt} {
		c := api.Config{Shards: n, Clients: n, Queue: n, Accounts: bank().Accounts}
		for _, k := range []int{0, 1, n, -n} {
			b := shard.New(c, k)
			if len(b.Next) > api.MaxShards || len(b.Slots) > api.MaxClients {
				t.Errorf("R1: %d: %d, %d", n, len(b.Next), len(b.Slots))
			}
			shard.Submit(c, b, pay(0, 1, "al", "zoe", 1))
			shard.Encode(b)
		}
		shard.Decode([]byte{0, 0xff, 0xff, 0xff, 0xff, 0x0f})
	}
	runtime.ReadMemStats(&behind)
	if behind.TotalAlloc-ahead.TotalAlloc > 1000*api.MaxValue {
		t.Errorf("R1: %d bytes", behind.TotalAlloc-ahead.TotalAlloc)
	}
}
