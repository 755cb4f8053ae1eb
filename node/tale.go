package node

import (
	"slices"

	"tally/api"
	"tally/code"
	"tally/disk"
	"tally/journal"
	"tally/plane"
	"tally/shard"
)

// journalName is the journal's file on a node's disk.
const journalName = "node"

// What a part of a transaction is.
const (
	partLife = 1
	partCopy = 2
)

// tale is what a journal tells.
type tale struct {
	life   uint64
	copies []kept // by shard
}

// kept is what a copy keeps, of whatever shard.
type kept struct {
	shard int
	api.Stored
}

// open opens the journal of a node, and reads what it tells; it changes nothing.
func open(c api.Config, me int, d *disk.Disk) (*journal.Journal, tale, api.Errno) {
	if !mayBe(c) || me < 0 || me >= c.Nodes {
		return nil, tale{}, api.ErrNodeConfig
	}
	j, bad := journal.Open(d, journalName)
	if bad != api.OK {
		return nil, tale{}, bad
	}
	t := first(c, me)
	if !t.takeAll(j.All()) || t.life == api.MaxNumber {
		return nil, tale{}, api.ErrNodeDisk
	}
	return j, t, api.OK
}

// first is what a journal tells that has nothing in it.
func first(c api.Config, me int) tale {
	var t tale
	for s := range c.Shards {
		if copies, _ := plane.Copies(s, c.Nodes, c.Copies); slices.Contains(copies, me) {
			t.copies = append(t.copies, kept{s, api.Stored{Value: shard.Encode(shard.New(c, s))}})
		}
	}
	return t
}

// place tells where the copy of a shard stands; below 0: there is none.
func (t *tale) place(shard int) int {
	return slices.IndexFunc(t.copies, func(k kept) bool { return k.shard == shard })
}

// takeAll takes what transactions tell; false: it may not be.
func (t *tale) takeAll(all [][][]byte) bool {
	for _, parts := range all {
		if len(parts) == 0 {
			return false
		}
		for _, part := range parts {
			if !t.take(part) {
				return false
			}
		}
	}
	return true
}

func (t *tale) take(part []byte) bool {
	r := code.Read(part)
	switch r.U8() {
	case partLife:
		return t.takeLife(r)
	case partCopy:
		return t.takeCopy(r)
	}
	return false
}

func (t *tale) takeLife(r *code.Reader) bool {
	life := r.U64()
	if r.End() != api.OK || life <= t.life || life > api.MaxNumber {
		return false
	}
	t.life = life
	return true
}

func (t *tale) takeCopy(r *code.Reader) bool {
	at := t.place(int(r.U8()))
	s := api.Stored{Promised: r.U64(), Tag: api.Tag{Epoch: r.U64(), Seq: r.U64()}, Value: r.Bytes(api.MaxValue)}
	if r.End() != api.OK || at < 0 || s.Tag.Epoch > s.Promised || max(s.Promised, s.Tag.Seq) > api.MaxNumber {
		return false
	}
	t.copies[at].Stored = s
	return true
}

func lifePart(life uint64) []byte {
	w := code.New()
	w.U8(partLife)
	w.U64(life)
	return w.Out()
}

func copyPart(shard int, s api.Stored) []byte {
	w := code.New()
	w.U8(partCopy)
	w.U8(uint8(shard))
	w.U64(s.Promised)
	w.U64(s.Tag.Epoch)
	w.U64(s.Tag.Seq)
	w.Bytes(s.Value)
	return w.Out()
}
