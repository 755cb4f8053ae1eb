package node_test

import (
	"bytes"
	"encoding/binary"
	"fmt"
	"math"
	"math/rand"
	"strings"
	"testing"

	"tally/api"
	"tally/disk"
	"tally/journal"
	"tally/node"
)

// Example 3, P16.1, P16.7: journals that may not be: neither a start nor Kept takes them.
func TestMayNotBe(t *testing.T) {
	c := conf()
	x := stored(9, 8, 7, "v")
	huge := stored(9, 8, 7, strings.Repeat("v", api.MaxValue+1))
	number := func(at int, n uint64) []byte {
		b := copyPart(0, x)
		binary.BigEndian.PutUint64(b[2+8*at:], n)
		return b
	}
	long := copyPart(0, x)
	long = append(long[:26:26], 0x81, 0, 'v')
	for i, rows := range [][][][]byte{
		{{lifePart(0)}}, {{{3}}}, {{{}}}, {{{1}}}, {{{2}}}, {{{0}}}, {{{2, 0}}},
		{{lifePart(5)}, {lifePart(3)}}, {{lifePart(5)}, {lifePart(5)}}, {{lifePart(5), lifePart(5)}}, {{lifePart(5), lifePart(4)}},
		{{lifePart(5)}, {copyPart(0, x)}, {lifePart(5)}}, {{lifePart(5)}, {lifePart(7)}, {lifePart(6)}}, {{lifePart(1), lifePart(0)}},
		{{}}, {{lifePart(5)}, {}}, {{}, {lifePart(5)}},
		{{lifePart(api.MaxNumber + 1)}}, {{lifePart(math.MaxUint64)}}, {{lifePart(api.MaxNumber)}}, {{lifePart(1)}, {lifePart(api.MaxNumber)}},
		{{copyPart(2, x)}}, {{copyPart(255, x)}}, {{lifePart(1), copyPart(7, x)}},
		{{number(0, api.MaxNumber+1)}}, {{number(0, math.MaxUint64)}}, {{number(2, api.MaxNumber+1)}}, {{number(2, math.MaxUint64)}},
		{{number(1, 10)}}, {{number(1, math.MaxUint64)}}, {{number(0, 7)}}, {{copyPart(0, stored(0, 1, 0, ""))}},
		{{copyPart(0, stored(math.MaxUint64, math.MaxUint64, 0, ""))}}, {{copyPart(0, huge)}}, {{long}},
		{{append(lifePart(5), 0)}}, {{lifePart(5)[:8]}}, {{append(copyPart(0, x), 0)}}, {{copyPart(0, x)[:27]}}, {{copyPart(0, x)[:26]}},
		{{append([]byte{3}, lifePart(5)[1:]...)}}, {{append([]byte{0}, lifePart(5)[1:]...)}}, {{append([]byte{3}, copyPart(0, x)[1:]...)}},
		{{lifePart(5), nil}}, {{lifePart(5), copyPart(0, x), {9}}, {lifePart(6)}},
	} {
		for me := range 3 {
			refused(t, fmt.Sprint(i), c, me, laid(t, rows...), api.ErrNodeDisk)
		}
	}
}

// P16.1: a copy part is about one of the node's own copies, not about any shard that there is.
func TestAnothersCopy(t *testing.T) {
	c := conf()
	c.Nodes, c.Copies, c.Shards = 5, 1, 8
	for s := range c.Shards {
		owner := copiesOf(t, c, s)[0]
		for me := range c.Nodes {
			d := laid(t, [][]byte{copyPart(s, stored(9, 8, 7, "v"))})
			if me != owner {
				refused(t, fmt.Sprint(s, me), c, me, d, api.ErrNodeDisk)
				continue
			}
			keeps(t, "its own", start(t, c, me, d), c, me, d, s, stored(9, 8, 7, "v"))
		}
	}
}

// P16.1, P16.7: of the life and of each copy the last part counts, wherever it stands; numbers and values are taken up to their bounds, and what a value says is not looked at.
func TestLastPartCounts(t *testing.T) {
	c := conf()
	x, y, z := stored(9, 8, 7, "x"), stored(5, 5, api.MaxNumber, ""), stored(api.MaxNumber, api.MaxNumber, 0, strings.Repeat("z", api.MaxValue))
	first := [2]api.Stored{stored(0, 0, 0, firstValue(c, 0)), stored(0, 0, 0, firstValue(c, 1))}
	for i, e := range []struct {
		rows [][][]byte
		life uint64
		has  [2]api.Stored
	}{
		{nil, 0, first},
		{[][][]byte{{lifePart(1)}}, 1, first},
		{[][][]byte{{lifePart(1)}, {lifePart(7)}}, 7, first},
		{[][][]byte{{lifePart(1), lifePart(2)}, {lifePart(api.MaxNumber - 2)}}, api.MaxNumber - 2, first},
		{[][][]byte{{copyPart(0, x)}}, 0, [2]api.Stored{x, first[1]}},
		{[][][]byte{{copyPart(1, x)}, {copyPart(1, y)}}, 0, [2]api.Stored{first[0], y}},
		{[][][]byte{{copyPart(1, z), copyPart(1, y), lifePart(3), copyPart(0, z)}}, 3, [2]api.Stored{z, y}},
		{[][][]byte{{copyPart(1, y)}, {copyPart(0, y)}, {lifePart(3)}, {copyPart(1, z)}, {lifePart(4)}}, 4, [2]api.Stored{y, z}},
		{[][][]byte{{copyPart(0, stored(0, 0, 0, "q")), copyPart(1, stored(1, 0, 5, ""))}}, 0, [2]api.Stored{stored(0, 0, 0, "q"), stored(1, 0, 5, "")}},
	} {
		d := laid(t, e.rows...)
		for s, want := range e.has {
			if got, ok := node.Kept(c, 1, d, s); !ok || !same(got, want) {
				t.Fatalf("%d: Kept(%d): %v, %v", i, s, got, ok)
			}
		}
		n := start(t, c, 1, d)
		if n.Life() != e.life+1 {
			t.Fatalf("%d: life %d", i, n.Life())
		}
		for s, want := range e.has {
			keeps(t, fmt.Sprint(i), n, c, 1, d, s, want)
		}
	}
}

// P16.1: the last life is MaxNumber; behind it no node starts.
func TestLastLife(t *testing.T) {
	d := laid(t, [][]byte{lifePart(api.MaxNumber - 2)})
	for _, life := range []uint64{api.MaxNumber - 1, api.MaxNumber} {
		if n := start(t, conf(), 1, d); n.Life() != life {
			t.Fatalf("life %d", n.Life())
		}
	}
	refused(t, "no more lives", conf(), 1, d, api.ErrNodeDisk) // which asks Kept, too
}

// P16.1: what is torn behind the good part of a journal is no part of it.
func TestTorn(t *testing.T) {
	c := conf()
	good := append(record(5, lifePart(3)), record(6, copyPart(0, stored(9, 8, 7, "v")))...)
	next := record(7, lifePart(9))
	for cut := range next {
		d := load(t, []api.FileBytes{{Name: "node", Data: append(bytes.Clone(good), next[:cut]...)}})
		if x, ok := node.Kept(c, 1, d, 0); !ok || x.Promised != 9 {
			t.Fatalf("Kept: %v, %v", x, ok)
		}
		n := start(t, c, 1, d)
		if got, many := last(t, d); n.Life() != 4 || many != 3 || got != row(lifePart(4)) {
			t.Fatalf("cut at %d: life %d, %s", cut, n.Life(), got)
		}
		keeps(t, "torn", n, c, 1, d, 0, stored(9, 8, 7, "v"))
	}
}

// plainTale tells by the chapter's words what transactions tell.
func plainTale(t *testing.T, c api.Config, me int, rows [][][]byte) (uint64, map[int]api.Stored, bool) {
	life, has := uint64(0), map[int]api.Stored{}
	for s := range c.Shards {
		for _, k := range copiesOf(t, c, s) {
			if k == me {
				has[s] = stored(0, 0, 0, firstValue(c, s))
			}
		}
	}
	for _, parts := range rows {
		if len(parts) == 0 {
			return 0, nil, false
		}
		for _, p := range parts {
			if len(p) == 9 && p[0] == 1 {
				n := binary.BigEndian.Uint64(p[1:])
				if n < 1 || n > api.MaxNumber || n <= life {
					return 0, nil, false
				}
				life = n
				continue
			}
			s, x, ok := plainCopy(p)
			if _, its := has[s]; !ok || !its {
				return 0, nil, false
			}
			has[s] = x
		}
	}
	return life, has, life < api.MaxNumber
}

func plainCopy(p []byte) (int, api.Stored, bool) {
	if len(p) < 27 || p[0] != 2 {
		return 0, api.Stored{}, false
	}
	n := func(i int) uint64 { return binary.BigEndian.Uint64(p[2+8*i:]) }
	x := stored(n(0), n(1), n(2), "")
	size, _ := binary.Uvarint(p[26:])
	if size > api.MaxValue || uint64(len(p)) < 27+size {
		return 0, api.Stored{}, false
	}
	x.Value = p[uint64(len(p))-size:]
	if !bytes.Equal(copyPart(int(p[1]), x), p) || x.Promised > api.MaxNumber || x.Tag.Epoch > x.Promised || x.Tag.Seq > api.MaxNumber {
		return 0, api.Stored{}, false
	}
	return int(p[1]), x, true
}

func drawPart(r *rand.Rand, life *uint64, shards int) []byte {
	number := func() uint64 {
		l := []uint64{0, 1, 2, 3, 255, 256, api.MaxNumber - 1, api.MaxNumber}
		if r.Intn(60) == 0 {
			l = []uint64{api.MaxNumber + 1, 1 << 48, math.MaxUint64}
		}
		return l[r.Intn(len(l))]
	}
	var p []byte
	if r.Intn(3) == 0 {
		*life += 1 + uint64(r.Intn(3))
		if r.Intn(30) == 0 {
			*life = number()
		}
		p = lifePart(*life)
	} else {
		l := []uint64{number(), number()}
		if l[0] < l[1] && r.Intn(20) > 0 {
			l[0], l[1] = l[1], l[0]
		}
		p = copyPart(r.Intn(shards), stored(l[0], l[1], number(), strings.Repeat("v", []int{0, 1, 127, 128, 130, 300}[r.Intn(6)])))
	}
	switch r.Intn(60) {
	case 0:
		p = p[:r.Intn(len(p))]
	case 1:
		p = append(p, byte(r.Intn(256)))
	case 2:
		p[r.Intn(len(p))] = byte(r.Intn(256))
	case 3:
		p[0] = byte(r.Intn(4))
	case 4:
		p[min(1, len(p)-1)] = byte(r.Intn(9))
	}
	return p
}

// P16.1, P16.7: drawn journals, each held against a plain reading.
func TestDrawnTales(t *testing.T) {
	r := rand.New(rand.NewSource(16))
	may, not := 0, 0
	for range 4000 {
		c := conf()
		c.Nodes = 3 + r.Intn(3)
		me := r.Intn(c.Nodes)
		shards := 2
		if c.Nodes == 3 {
			c.Shards = 1 + r.Intn(8)
			shards = c.Shards
		}
		life := uint64(0)
		var rows [][][]byte
		for range r.Intn(6) {
			var parts [][]byte
			for k := 1 + r.Intn(3); k > 0 && r.Intn(60) > 0; k-- {
				parts = append(parts, drawPart(r, &life, shards))
			}
			rows = append(rows, parts)
		}
		if tale(t, c, me, rows) {
			may++
		} else {
			not++
		}
	}
	if may < 1000 || not < 1000 {
		t.Errorf("%d may be, %d may not", may, not)
	}
}

func tale(t *testing.T, c api.Config, me int, rows [][][]byte) bool {
	t.Helper()
	d := laid(t, rows...)
	life, has, ok := plainTale(t, c, me, rows)
	if !ok {
		refused(t, fmt.Sprintf("%x", rows), c, me, d, api.ErrNodeDisk)
		return false
	}
	n := start(t, c, me, d)
	if n.Life() != life+1 {
		t.Fatalf("%x: life %d, want %d", rows, n.Life(), life+1)
	}
	for s := range api.MaxShards {
		want, its := has[s]
		got, ok := n.Stored(s)
		if ok != its || !same(got, want) {
			t.Fatalf("%x: Stored(%d): %v, %v, want %v, %v", rows, s, got, ok, want, its)
		}
		// Behind the last life there is no other start, which would find anything.
		if life+1 == api.MaxNumber {
			want, its = api.Stored{}, false
		}
		if got, ok := node.Kept(c, me, d, s); ok != its || !same(got, want) {
			t.Fatalf("%x: Kept(%d): %v, %v, want %v, %v", rows, s, got, ok, want, its)
		}
	}
	return true
}

// P16.7: Kept changes nothing, and counts no stroke, whatever the disk has.
func TestKeptChangesNothing(t *testing.T) {
	c := conf()
	torn := load(t, []api.FileBytes{{Name: "node", Data: append(record(5, lifePart(3)), 0xa7)}})
	for i, d := range []*disk.Disk{empty(t), torn, laid(t, [][]byte{lifePart(4)}), laid(t, [][]byte{lifePart(0)})} {
		was, strokes := fmt.Sprint(d.Crash([]int{-1, -1})), d.Strokes()
		for s := -1; s < 9; s++ {
			for me := -1; me < 4; me++ {
				node.Kept(c, me, d, s)
			}
		}
		if now := fmt.Sprint(d.Crash([]int{-1, -1})); now != was || d.Strokes() != strokes {
			t.Errorf("%d: %d strokes, %s", i, d.Strokes()-strokes, now)
		}
	}
	j, _ := journal.Open(torn, "node")
	if !j.Torn() {
		t.Error("the journal is not torn any more")
	}
}
