package shard_test

import (
	"math"
	"math/rand"
	"slices"
	"strings"
	"testing"

	"tally/api"
	"tally/shard"
)

// ample: a book of shard 1 of 3 that may be, with something of everything.
func ample() api.Book {
	here, zero, two := names(3, 1, 3), names(1, 0, 3)[0], names(1, 2, 3)[0]
	return api.Book{
		Shard:    1,
		Accounts: []api.Account{{Name: here[0], Balance: 3}, {Name: here[1]}, {Name: here[2], Balance: 300}},
		Queue:    []api.Entry{entry(2, 7, two, 1), entry(0, 1, zero, 2), entry(2, 8, two, 300)},
		Next:     []uint64{2, 1, 9},
		Marks:    []uint64{4, 0, 300},
		Slots:    []api.Slot{{Number: 5, Peer: 2, Entry: 8}, {Number: 6, Bad: api.BadFunds}, {}, {Number: 300, Peer: 0, Entry: 1}, {Number: 1}},
	}
}

// may holds Encode and Decode of a book against whether it may be.
func may(t *testing.T, what string, b api.Book, want bool) {
	t.Helper()
	if why := fault(b); (why == "") != want {
		t.Fatalf("%s: the test's own telling says %q", what, why)
	}
	l := shard.Encode(b)
	if want && string(l) != string(bytesOf(b)) || !want && len(l) != 0 {
		t.Errorf("P12.2, P12.3: %s: %x", what, l)
	}
	if !tellable(b) {
		return
	}
	got, bad := shard.Decode(bytesOf(b))
	if want && (bad != api.OK || told(got) != told(b)) {
		t.Errorf("P12.3: %s: Decode: %d, %s, want %s", what, bad, told(got), told(b))
	}
	if !want && (bad != api.ErrShardForm || told(got) != told(api.Book{})) {
		t.Errorf("P12.2, P12.3: %s: Decode: %d, %s", what, bad, told(got))
	}
}

// A turn changes a book; it may be then, or not.
type turn struct {
	what string
	want bool
	do   func(b *api.Book)
}

func turns(t *testing.T, l []turn) {
	t.Helper()
	for _, x := range l {
		b := ample()
		x.do(&b)
		may(t, x.what, b, x.want)
	}
}

// P12.2: the numbers of shards.
func TestShardsMayBe(t *testing.T) {
	may(t, "as it is", ample(), true)
	may(t, "no book", api.Book{}, false)
	for _, n := range []int{-1, 0, 2, 3, 4, 255, 256, 257, math.MinInt, math.MaxInt} {
		turns(t, []turn{{"another shard", false, func(b *api.Book) { b.Shard = n }}})
	}
	turns(t, []turn{
		{"a mark more", false, func(b *api.Book) { b.Marks = append(b.Marks, 0) }},
		{"a mark less", false, func(b *api.Book) { b.Marks = b.Marks[:2] }},
		{"no marks", false, func(b *api.Book) { b.Marks = nil }},
		{"no next", false, func(b *api.Book) { b.Next = nil }},
		{"neither", false, func(b *api.Book) { b.Next, b.Marks = nil, nil }},
	})
	for shards := range api.MaxShards + 3 {
		for own := -1; own <= shards; own++ {
			b := api.Book{Shard: own, Next: slices.Repeat([]uint64{1}, shards), Marks: make([]uint64, shards), Slots: []api.Slot{{}}}
			may(t, "bare", b, 1 <= shards && shards <= api.MaxShards && 0 <= own && own < shards)
		}
	}
}

// P12.2: the accounts.
func TestAccountsMayBe(t *testing.T) {
	here, two := names(api.MaxAccounts+1, 1, 3), names(1, 2, 3)[0]
	set := func(l []string) func(b *api.Book) {
		return func(b *api.Book) {
			b.Accounts = nil
			for _, n := range l {
				b.Accounts = append(b.Accounts, api.Account{Name: n, Balance: 1})
			}
		}
	}
	turns(t, []turn{
		{"none", true, set(nil)},
		{"as many as may be", true, set(here[:api.MaxAccounts])},
		{"too many", false, set(here)},
		{"another home", false, set([]string{two})},
		{"another home behind", false, set([]string{here[0], here[1], two})},
		{"twice", false, set([]string{here[0], here[0]})},
		{"twice, once small", false, set([]string{here[0], strings.ToLower(here[0])})},
		{"not rising", false, set([]string{here[1], here[0]})},
		{"not rising behind", false, set([]string{here[0], here[2], here[1]})},
		{"all that there is", true, func(b *api.Book) { b.Accounts[0].Balance, b.Accounts[2].Balance = api.MaxSupply-300, 300 }},
		{"all with one", true, func(b *api.Book) { b.Accounts[0].Balance, b.Accounts[2].Balance = 0, api.MaxSupply }},
		{"more than there is", false, func(b *api.Book) { b.Accounts[0].Balance, b.Accounts[2].Balance = api.MaxSupply-300, 301 }},
		{"more with one", false, func(b *api.Book) { b.Accounts[0].Balance, b.Accounts[2].Balance = 0, api.MaxSupply+1 }},
		{"far more", false, func(b *api.Book) { b.Accounts[1].Balance = math.MaxUint64 }},
		{"so much that it wraps round", false, func(b *api.Book) { b.Accounts[0].Balance, b.Accounts[2].Balance = math.MaxUint64, 1 }},
		{"so much that it wraps round thrice", false, func(b *api.Book) {
			b.Accounts[0].Balance, b.Accounts[1].Balance, b.Accounts[2].Balance = 1<<63, 1<<63, 7
		}},
	})
	// By folds, not as they are spelled; and good names alone. Of one shard all are at home at it.
	for _, x := range []struct {
		want bool
		l    []string
	}{
		{true, []string{"a", "B", "c"}}, {false, []string{"B", "a", "c"}}, {true, []string{"Z", "×", "É", "ê"}}, {false, []string{"É", "×"}}, {false, []string{"É", "é"}}, {true, []string{"a", "a-", "a."}},
		{false, []string{""}}, {false, []string{"a b"}}, {false, []string{"a/b"}}, {false, []string{"\xff"}}, {false, []string{"\xed\xa0\x80"}}, {true, []string{strings.Repeat("x", 64)}}, {false, []string{strings.Repeat("x", 65)}}, {false, []string{strings.Repeat("é", 33)}},
	} {
		b := api.Book{Next: []uint64{1}, Marks: []uint64{0}, Slots: []api.Slot{{}}}
		set(x.l)(&b)
		may(t, strings.Join(x.l, " "), b, x.want)
	}
}

// P12.2: next numbers and marks.
func TestNumbersMayBe(t *testing.T) {
	turns(t, []turn{
		{"the next is the last", true, func(b *api.Book) { b.Queue, b.Slots, b.Next[0] = nil, b.Slots[1:2], api.MaxNumber }},
		{"the next is above", false, func(b *api.Book) { b.Queue, b.Slots, b.Next[0] = nil, b.Slots[1:2], api.MaxNumber+1 }},
		{"the next is far above", false, func(b *api.Book) { b.Queue, b.Slots, b.Next[2] = nil, b.Slots[1:2], math.MaxUint64 }},
		{"the next is 1", true, func(b *api.Book) { b.Queue, b.Slots, b.Next[0] = nil, b.Slots[1:2], 1 }},
		{"the next is 0", false, func(b *api.Book) { b.Queue, b.Slots, b.Next[0] = nil, b.Slots[1:2], 0 }},
		{"the mark is the last", true, func(b *api.Book) { b.Marks[2] = api.MaxNumber }},
		{"the mark is above", false, func(b *api.Book) { b.Marks[2] = api.MaxNumber + 1 }},
		{"the mark is far above", false, func(b *api.Book) { b.Marks[0] = math.MaxUint64 }},
		{"no mark", true, func(b *api.Book) { b.Marks[0], b.Marks[2] = 0, 0 }},
		{"own next", false, func(b *api.Book) { b.Next[1] = 2 }},
		{"own next 0", false, func(b *api.Book) { b.Next[1] = 0 }},
		{"own mark", false, func(b *api.Book) { b.Marks[1] = 1 }},
	})
}

// P12.2: the queue.
func TestQueueMayBe(t *testing.T) {
	here, zero, two := names(1, 1, 3)[0], names(1, 0, 3)[0], names(1, 2, 3)[0]
	fill := func(n int) func(b *api.Book) {
		return func(b *api.Book) {
			b.Queue, b.Next[2] = nil, uint64(n)+9
			for i := range n {
				b.Queue = append(b.Queue, entry(2, uint64(i)+9, two, 1))
			}
		}
	}
	turns(t, []turn{
		{"none", true, func(b *api.Book) { b.Queue = nil }},
		{"as many as may be", true, fill(api.MaxQueue)},
		{"too many", false, fill(api.MaxQueue + 1)},
		{"to its own", false, func(b *api.Book) { b.Queue[0].Peer, b.Queue[0].Name = 1, here }},
		{"to its own alone", false, func(b *api.Book) { b.Queue = []api.Entry{entry(1, 0, here, 1)} }},
		{"to nobody", false, func(b *api.Book) { b.Queue[0].Peer = 3 }},
		{"to less than nobody", false, func(b *api.Book) { b.Queue[0].Peer = -1 }},
		{"a wrong home", false, func(b *api.Book) { b.Queue[0].Name = zero }},
		{"its own home", false, func(b *api.Book) { b.Queue[1].Name = here }},
		{"no name", false, func(b *api.Book) { b.Queue[1].Name = "" }},
		{"another spelling", true, func(b *api.Book) { b.Queue[1].Name = strings.ToLower(zero) }},
		{"nothing", false, func(b *api.Book) { b.Queue[2].Amount = 0 }},
		{"all that there is", true, func(b *api.Book) { b.Queue[0].Amount, b.Queue[2].Amount = api.MaxSupply, api.MaxSupply }},
		{"more than there is", false, func(b *api.Book) { b.Queue[2].Amount = api.MaxSupply + 1 }},
		{"far more", false, func(b *api.Book) { b.Queue[0].Amount = math.MaxUint64 }},
		{"the last left out", false, func(b *api.Book) { b.Queue = b.Queue[:2] }},
		{"the first left out", true, func(b *api.Book) { b.Queue = b.Queue[1:] }},
		{"one twice", false, func(b *api.Book) { b.Queue[0].Number = 8 }},
		{"one left out", false, func(b *api.Book) { b.Queue[0].Number = 6 }},
		{"turned round", false, func(b *api.Book) { b.Queue[0].Number, b.Queue[2].Number = 8, 7 }},
		{"all one too small", false, func(b *api.Book) { b.Queue[0].Number, b.Queue[2].Number = 6, 7 }},
		{"all one too great", false, func(b *api.Book) { b.Queue[0].Number, b.Queue[2].Number = 8, 9 }},
		{"of the other peer left out", true, func(b *api.Book) { b.Queue = []api.Entry{b.Queue[0], b.Queue[2]} }},
		{"of the other peer first", true, func(b *api.Book) { b.Queue[0], b.Queue[1] = b.Queue[1], b.Queue[0] }},
		{"from 0 on", false, func(b *api.Book) {
			b.Queue = []api.Entry{entry(0, 0, zero, 1), entry(0, 1, zero, 1), b.Queue[0], b.Queue[2]}
		}},
		{"0 alone", false, func(b *api.Book) { b.Queue, b.Next[0], b.Slots = []api.Entry{entry(0, 0, zero, 1)}, 1, b.Slots[:1] }},
		{"from 1 on", true, func(b *api.Book) { b.Next[0], b.Queue = 3, append(b.Queue, entry(0, 2, zero, 1)) }},
		{"below 0", false, func(b *api.Book) {
			b.Queue, b.Next[0], b.Slots = []api.Entry{entry(0, math.MaxUint64, zero, 1), entry(0, 0, zero, 1)}, 1, b.Slots[:1]
		}},
		{"the last number", true, func(b *api.Book) { b.Next[0], b.Queue[1].Number = api.MaxNumber, api.MaxNumber-1 }},
		{"above the last number", false, func(b *api.Book) { b.Next[0], b.Queue[1].Number = api.MaxNumber, api.MaxNumber }},
	})
}

// P12.2: the slots.
func TestSlotsMayBe(t *testing.T) {
	turns(t, []turn{
		{"none", false, func(b *api.Book) { b.Slots = nil }},
		{"one", true, func(b *api.Book) { b.Slots = b.Slots[:1] }},
		{"as many as may be", true, func(b *api.Book) { b.Slots = append(b.Slots, make([]api.Slot, 3)...) }},
		{"too many", false, func(b *api.Book) { b.Slots = append(b.Slots, make([]api.Slot, 4)...) }},
	})
	var verdicts []api.Errno
	for e := api.Errno(-2); e < 400; e++ {
		verdicts = append(verdicts, e)
	}
	verdicts = append(verdicts, math.MaxInt, math.MinInt, 1<<32)
	for _, e := range verdicts {
		ok := e == api.OK || 300 <= e && e <= 305 || e == 307
		turns(t, []turn{
			{"a verdict", ok, func(b *api.Book) { b.Slots[4].Bad = e }},
			{"a verdict and an entry", e == api.OK, func(b *api.Book) { b.Slots[0].Bad = e }},
			{"a verdict on nothing", e == api.OK, func(b *api.Book) { b.Slots[2].Bad = e }},
		})
	}
	for _, x := range []struct {
		want bool
		s    api.Slot
	}{
		{true, api.Slot{Number: 1}}, {true, api.Slot{Number: api.MaxNumber}}, {false, api.Slot{Number: api.MaxNumber + 1}}, {false, api.Slot{Number: math.MaxUint64}}, {false, api.Slot{Number: api.MaxNumber + 1, Bad: api.BadZero}}, {false, api.Slot{Number: api.MaxNumber + 1, Peer: 2, Entry: 8}},
		{false, api.Slot{Peer: 2}}, {false, api.Slot{Entry: 1}}, {false, api.Slot{Peer: 2, Entry: 8}}, {false, api.Slot{Bad: api.BadZero}},
		{false, api.Slot{Number: 1, Peer: 2}}, {false, api.Slot{Number: 1, Peer: 1}}, {false, api.Slot{Number: 1, Peer: -1}}, {false, api.Slot{Number: 1, Peer: 3}}, {false, api.Slot{Number: 1, Peer: 2, Bad: api.BadZero}},
		{true, api.Slot{Number: 1, Peer: 2, Entry: 1}}, {true, api.Slot{Number: 1, Peer: 2, Entry: 8}}, {false, api.Slot{Number: 1, Peer: 2, Entry: 9}}, {false, api.Slot{Number: 1, Peer: 2, Entry: math.MaxUint64}},
		{true, api.Slot{Number: 1, Peer: 0, Entry: 1}}, {false, api.Slot{Number: 1, Peer: 0, Entry: 2}}, {false, api.Slot{Number: 1, Peer: 1, Entry: 1}}, {false, api.Slot{Number: 1, Peer: 3, Entry: 1}}, {false, api.Slot{Number: 1, Peer: -1, Entry: 1}}, {false, api.Slot{Number: 1, Peer: math.MaxInt, Entry: 1}},
	} {
		turns(t, []turn{{"a slot", x.want, func(b *api.Book) { b.Slots[3] = x.s }}})
	}
	// The own shard's next number lets no entry be, not even with a peer that is 0.
	may(t, "an entry to itself", api.Book{Next: []uint64{1, 1}, Marks: []uint64{0, 0}, Slots: []api.Slot{{Number: 1, Entry: 1}}}, false)
}

// spoilBook changes one or two things of a book to numbers near the bounds.
func spoilBook(r *rand.Rand, b *api.Book) {
	n := []uint64{0, 1, 2, uint64(r.Intn(12)), api.MaxNumber - 1, api.MaxNumber, api.MaxNumber + 1, api.MaxSupply, api.MaxSupply + 1, 1 << 63, math.MaxUint64}[r.Intn(11)]
	small := []int{-1, 0, 1, 2, 3, 7, 8, 255}[r.Intn(8)]
	name := append(names(2, r.Intn(3), 3), "", "a b", "É", strings.Repeat("y", 65))[r.Intn(6)]
	switch r.Intn(14) {
	case 0:
		b.Shard = small
	case 1:
		b.Accounts[r.Intn(len(b.Accounts))].Name = name
	case 2:
		b.Accounts[r.Intn(len(b.Accounts))].Balance = n
	case 3:
		b.Queue[r.Intn(len(b.Queue))].Peer = small
	case 4:
		b.Queue[r.Intn(len(b.Queue))].Number = n
	case 5:
		b.Queue[r.Intn(len(b.Queue))].Name = name
	case 6:
		b.Queue[r.Intn(len(b.Queue))].Amount = n
	case 7:
		b.Next[r.Intn(len(b.Next))] = n
	case 8:
		b.Marks[r.Intn(len(b.Marks))] = n
	case 9:
		b.Slots[r.Intn(len(b.Slots))].Number = n
	case 10:
		b.Slots[r.Intn(len(b.Slots))].Bad = api.Errno(298 + r.Intn(12))
	case 11:
		b.Slots[r.Intn(len(b.Slots))].Peer = small
	case 12:
		b.Slots[r.Intn(len(b.Slots))].Entry = n
	case 13:
		i, j := r.Intn(len(b.Queue)), r.Intn(len(b.Queue))
		b.Queue[i], b.Queue[j] = b.Queue[j], b.Queue[i]
	}
}

// P12.2, P12.3: drawn changes: Encode and Decode take just those that may be.
func TestSpoiled(t *testing.T) {
	r := rand.New(rand.NewSource(122))
	seen := map[string]int{}
	for range 30000 {
		b := ample()
		for range 1 + r.Intn(2) {
			spoilBook(r, &b)
		}
		why := fault(b)
		seen[why]++
		may(t, "drawn", b, why == "")
	}
	for _, why := range []string{"", "shards", "accounts", "numbers", "own numbers", "entry", "row", "slot", "verdict", "slot's entry"} {
		if seen[why] < 50 {
			t.Errorf("only %d of %q", seen[why], why)
		}
	}
}
