package journal

import "tally/api"

// stroke is one step of an Add or a Checkpoint: a call of the disk with what it is given.
type stroke func() api.Errno

// on makes a stroke of a call about one file, with of one that is given something more.
func on(call func(string) api.Errno, name string) stroke {
	return func() api.Errno { return call(name) }
}

func with[T any](call func(string, T) api.Errno, name string, given T) stroke {
	return func() api.Errno { return call(name, given) }
}

// Add adds one transaction, Checkpoint puts one in the place of all.
func (j *Journal) Add(parts [][]byte) api.Errno {
	rec, e := j.recordNext(parts)
	if e != api.OK {
		return e
	}
	if e := j.carryOut(j.strokesOfAdd(rec)); e != api.OK {
		return e
	}
	j.keep(append(j.all, copied(parts)))
	return api.OK
}

func (j *Journal) Checkpoint(parts [][]byte) api.Errno {
	rec, e := j.recordNext(parts)
	if e != api.OK {
		return e
	}
	if e := j.carryOut(j.strokesOfCheckpoint(rec)); e != api.OK {
		return e
	}
	j.keep([][][]byte{copied(parts)})
	j.torn = false
	return api.OK
}

// recordNext makes the record of these parts with the next number, or tells why it may not be written.
func (j *Journal) recordNext(parts [][]byte) ([]byte, api.Errno) {
	if j.off {
		return nil, api.ErrJournalOff
	}
	if isTooMuch(parts) || j.next > api.MaxNumber {
		return nil, api.ErrJournalLong
	}
	rec := record(j.next, parts)
	if len(rec) > api.MaxRecord {
		return nil, api.ErrJournalLong
	}
	return rec, api.OK
}

func (j *Journal) strokesOfAdd(rec []byte) []stroke {
	var row []stroke
	if j.torn {
		row = append(row, j.mend())
	}
	row = append(row, with(j.disk.Append, j.name, rec), on(j.disk.Sync, j.name))
	// The name of a file that this journal has not made safe yet might be lost with all its bytes.
	if !j.kept {
		row = append(row, j.disk.SyncNames)
	}
	return row
}

// mend makes the stroke that cuts off what is torn. It notes that itself: the cut is made even if a stroke behind it is refused.
func (j *Journal) mend() stroke {
	cut := with(j.disk.Cut, j.name, j.good)
	return func() api.Errno {
		e := cut()
		j.torn = e != api.OK
		return e
	}
}

func (j *Journal) strokesOfCheckpoint(rec []byte) []stroke {
	var row []stroke
	anew := second(j.name)
	// Where a crash has left a second file, its bytes must not stand ahead of the record.
	if _, e := j.disk.Size(anew); e == api.OK {
		row = append(row, on(j.disk.Remove, anew))
	}
	return append(row,
		with(j.disk.Append, anew, rec),
		on(j.disk.Sync, anew),
		with(j.disk.Rename, anew, j.name),
		j.disk.SyncNames,
	)
}

// carryOut carries strokes out, up to the first that is refused.
func (j *Journal) carryOut(row []stroke) (e api.Errno) {
	defer func() { j.off = e == api.ErrDiskOff }()
	for _, do := range row {
		if e = do(); e != api.OK {
			return e
		}
	}
	return api.OK
}

// keep takes what the disk holds now for the journal's transactions.
func (j *Journal) keep(all [][][]byte) {
	j.all = all
	j.next++
	j.kept = true
}
