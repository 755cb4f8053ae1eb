package node_test

import (
	"fmt"
	"math"
	"slices"
	"strings"
	"testing"

	"tally/api"
	"tally/disk"
	"tally/node"
	"tally/plane"
)

// Example 1, P16.1, P16.6, P16.7: over an empty disk; over that disk again.
func TestExampleStart(t *testing.T) {
	c, d := conf(), empty(t)
	n := start(t, c, 1, d)
	if got, many := last(t, d); n.Life() != 1 || many != 1 || got != row([]byte{1, 0, 0, 0, 0, 0, 0, 0, 1}) {
		t.Fatalf("life %d, %d transactions, the last %s", n.Life(), many, got)
	}
	for s := range 2 {
		keeps(t, "at first", n, c, 1, d, s, stored(0, 0, 0, firstValue(c, s)))
		role(t, "at first", n, s, api.PhaseIdle, false, 0)
	}
	for life := uint64(2); life < 9; life++ {
		n := start(t, c, 1, d)
		if got, many := last(t, d); n.Life() != life || many != int(life) || got != row(lifePart(life)) {
			t.Fatalf("life %d, %d transactions, the last %s", n.Life(), many, got)
		}
	}
	if l, _ := d.List(); !slices.Equal(l, []string{"node"}) {
		t.Errorf("the disk has %v", l)
	}
}

// P16.1: each number of a configuration, on both sides of each of its edges.
func TestConfig(t *testing.T) {
	big := conf()
	big.Nodes, big.Copies, big.Shards, big.Clients = 9, 7, 8, 8
	for _, e := range []struct {
		name        string
		of          func(c *api.Config) *int
		least, most int
	}{
		{"Nodes", func(c *api.Config) *int { return &c.Nodes }, 7, api.MaxNodes},
		{"Shards", func(c *api.Config) *int { return &c.Shards }, 1, api.MaxShards},
		{"Copies", func(c *api.Config) *int { return &c.Copies }, 1, api.MaxCopies},
		{"Clients", func(c *api.Config) *int { return &c.Clients }, 1, api.MaxClients},
		{"Queue", func(c *api.Config) *int { return &c.Queue }, 1, api.MaxQueue},
		{"Cap", func(c *api.Config) *int { return &c.Cap }, 1, api.MaxCap},
		{"Patience", func(c *api.Config) *int { return &c.Patience }, api.FirstPatience, api.MaxPatience},
		{"Flight", func(c *api.Config) *int { return &c.Flight }, 1, api.MaxFlight},
	} {
		for _, v := range []int{math.MinInt, -1, 0, e.least - 1, e.least, e.least + 2, e.most - 2, e.most, e.most + 1, e.most + 2, math.MaxInt, math.MaxInt - 1} {
			c := big
			*e.of(&c) = v
			what := fmt.Sprint(e.name, " ", v)
			if v < e.least || v > e.most {
				refused(t, what, c, 0, empty(t), api.ErrNodeConfig)
				continue
			}
			start(t, c, 0, empty(t))
		}
	}
}

// P16.1: Copies is odd and not above Nodes; each node of a cluster starts, and no other one.
func TestNodesAndCopies(t *testing.T) {
	for nodes := 1; nodes <= api.MaxNodes; nodes++ {
		for copies := 1; copies <= api.MaxNodes+1; copies++ {
			c := conf()
			c.Nodes, c.Copies = nodes, copies
			for me := -1; me <= nodes; me++ {
				what := fmt.Sprint(nodes, copies, me)
				if copies%2 == 0 || copies > nodes || copies > api.MaxCopies || me < 0 || me == nodes {
					refused(t, what, c, me, empty(t), api.ErrNodeConfig)
					continue
				}
				start(t, c, me, empty(t))
			}
		}
	}
	for _, me := range []int{math.MinInt, math.MaxInt} {
		refused(t, "me", conf(), me, empty(t), api.ErrNodeConfig)
	}
}

func TestAccounts(t *testing.T) {
	some := func(n int) []api.Account {
		var l []api.Account
		for i := range n {
			l = append(l, api.Account{Name: fmt.Sprint("x", i)})
		}
		return l
	}
	named := func(names ...string) []api.Account {
		var l []api.Account
		for _, n := range names {
			l = append(l, api.Account{Name: n, Balance: 1})
		}
		return l
	}
	have := func(balances ...uint64) []api.Account {
		l := some(len(balances))
		for i, b := range balances {
			l[i].Balance = b
		}
		return l
	}
	long := strings.Repeat("y", api.MaxName)
	// P16.1: these may be.
	for i, l := range [][]api.Account{
		nil, {}, some(1), some(api.MaxAccounts), named(long, long[1:]), named("al", "ann", "é"),
		have(api.MaxSupply), have(0, api.MaxSupply, 0), have(api.MaxSupply-1, 1), have(api.MaxSupply/2, api.MaxSupply/2),
	} {
		c := conf()
		c.Accounts = l
		start(t, c, i%3, empty(t))
	}
	// P16.1: these may not.
	for i, l := range [][]api.Account{
		some(api.MaxAccounts + 1), named(""), named("al", ""), named(long + "y"), named("a b"), named("\xff"), named("al", "al"), named("Ann", "ann"),
		named("x", "É", "y", "é"), have(api.MaxSupply + 1), have(api.MaxSupply, 1), have(1, 0, api.MaxSupply), have(math.MaxUint64), have(math.MaxUint64, 1),
		have(math.MaxUint64, math.MaxUint64), have(1<<63, 1<<63), have(api.MaxSupply, math.MaxUint64-api.MaxSupply+1),
	} {
		c := conf()
		c.Accounts = l
		refused(t, fmt.Sprint(i, l), c, i%3, empty(t), api.ErrNodeConfig)
	}
}

func off(t *testing.T, d *disk.Disk) *disk.Disk {
	d.Plan(api.Plan{Off: 1})
	if d.SyncNames() != api.ErrDiskOff {
		t.Fatal("the power is on")
	}
	return d
}

func full(t *testing.T, d *disk.Disk) *disk.Disk {
	d.Plan(api.Plan{FullFrom: 1, FullTo: 9})
	return d
}

// Example 2, P16.1: the errors in their order.
func TestStartErrors(t *testing.T) {
	bad := conf()
	bad.Copies = 2
	zero := lifePart(0)
	refused(t, "a configuration", bad, 1, empty(t), api.ErrNodeConfig)
	refused(t, "a configuration, off", bad, 1, off(t, empty(t)), api.ErrNodeConfig)
	refused(t, "a configuration, a journal that may not be", bad, 1, laid(t, [][]byte{zero}), api.ErrNodeConfig)
	refused(t, "a node, off", conf(), 3, off(t, empty(t)), api.ErrNodeConfig)
	refused(t, "off", conf(), 1, off(t, empty(t)), api.ErrDiskOff)
	refused(t, "off, a journal that may not be", conf(), 1, off(t, laid(t, [][]byte{zero})), api.ErrDiskOff)
	refused(t, "a journal that may not be, full", conf(), 1, full(t, laid(t, [][]byte{zero})), api.ErrNodeDisk)
	refused(t, "full", conf(), 1, full(t, empty(t)), api.ErrDiskFull)
	few, _ := disk.New(20)
	refused(t, "room for 20 bytes", conf(), 1, few, api.ErrDiskFull)
	few, _ = disk.New(39)
	refused(t, "a byte too few", conf(), 1, few, api.ErrDiskFull)
	just, _ := disk.New(40)
	start(t, conf(), 1, just)
	refused(t, "no room for a second life", conf(), 1, just, api.ErrDiskFull)
	noneKept(t, "off", conf(), 1, off(t, empty(t)), 0)
	if _, ok := node.Kept(conf(), 1, full(t, empty(t)), 0); !ok {
		t.Error("Kept, full")
	}
}

// P16.1: other files than the journal are neither looked at nor touched, but for the one in which a checkpoint is written.
func TestOtherFiles(t *testing.T) {
	d := load(t, []api.FileBytes{{Name: "life", Data: lifePart(9)}, {Name: "node.new", Data: record(1, lifePart(9))}, {Name: "node2", Data: []byte("x")}})
	if n := start(t, conf(), 1, d); n.Life() != 1 {
		t.Errorf("life %d", n.Life())
	}
	if l, _ := d.List(); !slices.Equal(l, []string{"life", "node", "node.new", "node2"}) {
		t.Errorf("the disk has %v", l)
	}
}

// P16.1, P16.6: a node has a copy of each shard among whose copies it is, and of no other one.
func TestItsCopies(t *testing.T) {
	for nodes := 1; nodes <= api.MaxNodes; nodes++ {
		for copies := 1; copies <= min(nodes, api.MaxCopies); copies += 2 {
			c := conf()
			c.Nodes, c.Copies, c.Shards = nodes, copies, api.MaxShards
			for me := range nodes {
				itsCopies(t, c, me)
			}
		}
	}
}

func itsCopies(t *testing.T, c api.Config, me int) {
	t.Helper()
	d := empty(t)
	n := start(t, c, me, d)
	for s := range c.Shards {
		l, _ := plane.Copies(s, c.Nodes, c.Copies)
		if slices.Contains(l, me) {
			keeps(t, "its own", n, c, me, d, s, stored(0, 0, 0, firstValue(c, s)))
			continue
		}
		if x, ok := n.Stored(s); ok || !same(x, api.Stored{}) {
			t.Fatalf("Stored(%d): %v, %v", s, x, ok)
		}
		noneKept(t, "another's", c, me, d, s)
		role(t, "another's", n, s, api.PhaseIdle, false, 0)
	}
	for _, s := range []int{math.MinInt, -1, c.Shards, c.Shards + 1, 256, math.MaxInt} {
		if _, ok := n.Stored(s); ok {
			t.Fatalf("Stored(%d)", s)
		}
		noneKept(t, "no shard", c, me, d, s)
		role(t, "no shard", n, s, api.PhaseIdle, false, 0)
	}
}

// P16.1: a start keeps others out for FirstPatience ticks, each time anew.
func TestKeptOutAtFirst(t *testing.T) {
	c, d := conf(), empty(t)
	for life := range uint64(3) {
		n := start(t, c, 1, d)
		was, _ := n.Stored(0)
		for range api.FirstPatience {
			hears(t, "kept out", n, prepare(0, 1, 0, 100+life), refuse(1, 0, 0, 100+life, was.Promised))
			keeps(t, "kept out", n, c, 1, d, 0, was)
			lapse(t, n, 1)
		}
		hears(t, "not kept out", n, prepare(0, 1, 0, 100+life), promise(1, 0, 0, 100+life, was))
		was.Promised = 100 + life
		keeps(t, "not kept out", n, c, 1, d, 0, was)
	}
}

// P16.1: the writers begin with the patience of a new one, and with what has been promised as seen.
func TestWritersAtFirst(t *testing.T) {
	c := conf()
	d := laid(t, [][]byte{lifePart(4), copyPart(0, stored(700, 600, 3, "v"))})
	n := start(t, c, 2, d)
	if n.Life() != 5 {
		t.Errorf("life %d", n.Life())
	}
	lapse(t, n, 4)
	// Its place is 1 of 3: of shard 0 the least such epoch above 700, of shard 1 the least of all.
	ticks(t, "its turn", n, prepare(2, 0, 0, 703), prepare(2, 1, 0, 703), prepare(2, 0, 1, 1), prepare(2, 1, 1, 1))
	role(t, "its turn", n, 0, api.PhasePreparing, false, 703)
	role(t, "its turn", n, 1, api.PhasePreparing, false, 1)
	keeps(t, "its turn", n, c, 2, d, 0, stored(703, 600, 3, "v"))
	keeps(t, "its turn", n, c, 2, d, 1, stored(1, 0, 0, firstValue(c, 1)))
}

// P16.1, P16.5, P16.9: the gate is one of that life.
func TestGateOfItsLife(t *testing.T) {
	d := laid(t, [][]byte{lifePart(41)})
	for life := uint64(42); life < 45; life++ {
		n := start(t, conf(), 1, d)
		for id := uint64(1); id < 4; id++ {
			got, l, e := n.Call(balance("al"))
			if got != id || e != api.OK {
				t.Fatalf("Call: %d, %d", got, e)
			}
			are(t, "Call", l, ask(1, 0, 0, life, id, balance("al")))
		}
	}
}

// P16.5: what gate.Call tells: its errors too, which leave the node up.
func TestCall(t *testing.T) {
	n := start(t, conf(), 1, empty(t))
	for _, r := range []api.Request{{}, {Op: 9, Name: "al"}, {Op: api.CallBalance}, {Op: api.CallBalance, Client: 1, Name: "al"}, submit(0, "al", "Zed", 1), submit(1, "al", "", 1), submit(api.MaxNumber+1, "al", "Zed", 1)} {
		if id, l, e := n.Call(r); id != 0 || len(l) != 0 || e != api.ErrGateCall {
			t.Errorf("Call(%+v): %d, %v, %d", r, id, l, e)
		}
	}
	for id := uint64(1); id <= api.MaxCalls; id++ {
		r := submit(id, "zoe", "al", id)
		got, l, e := n.Call(r)
		if got != id || e != api.OK {
			t.Fatalf("Call: %d, %d", got, e)
		}
		are(t, "Call", l, ask(1, 0, 1, 1, id, r))
	}
	if id, l, e := n.Call(balance("al")); id != 0 || len(l) != 0 || e != api.ErrGateBusy {
		t.Errorf("a ninth call: %d, %v, %d", id, l, e)
	}
	if l, done, e := n.Hear(say(t, answer(0, 1, 1, 1, 3, 9))); len(l) != 0 || e != api.OK || !slices.Equal(done, []api.Done{{Node: 1, ID: 3, Amount: 9}}) {
		t.Errorf("the answer: %v, %v, %d", l, done, e)
	}
	if id, _, e := n.Call(balance("al")); id != api.MaxCalls+1 || e != api.OK {
		t.Errorf("room again: %d, %d", id, e)
	}
}
