package message

import (
	"tally/api"
	"tally/code"
)

// The fields behind the head, in the order in which they are written.
const (
	fieldEpoch = iota
	fieldTag
	fieldRound
	fieldSpan
	fieldSeen
	fieldValue
	fieldPeer
	fieldNumber
	fieldName
	fieldOther
	fieldAmount
	fieldCall
	fieldOp
	fieldClient
	fieldState
	fieldBad
	fieldCount
)

// uses tells the fields that a kind uses, a bit each.
var uses = [...]uint32{
	api.MsgPrepare: 1 << fieldEpoch,
	api.MsgPromise: 1<<fieldEpoch | 1<<fieldTag | 1<<fieldValue,
	api.MsgRefuse:  1<<fieldEpoch | 1<<fieldSeen,
	api.MsgWrite:   1<<fieldTag | 1<<fieldSpan | 1<<fieldValue,
	api.MsgWrote:   1 << fieldTag,
	api.MsgBeat:    1<<fieldEpoch | 1<<fieldRound | 1<<fieldSpan,
	api.MsgBeaten:  1<<fieldEpoch | 1<<fieldRound,
	api.MsgSettle:  1<<fieldPeer | 1<<fieldNumber | 1<<fieldName | 1<<fieldAmount,
	api.MsgSettled: 1<<fieldPeer | 1<<fieldNumber,
	api.MsgAsk:     1<<fieldNumber | 1<<fieldName | 1<<fieldOther | 1<<fieldAmount | 1<<fieldCall | 1<<fieldOp | 1<<fieldClient,
	api.MsgAnswer:  1<<fieldAmount | 1<<fieldCall | 1<<fieldState | 1<<fieldBad,
}

func isUsed(kind, which int) bool {
	return uses[kind]>>which&1 == 1
}

// field is what is done with one: whether it may be as it is (if the kind does not use it: only zero), how it is written, how it is read. What read lets pass is held against may all the same, since a byte has no bound of its own.
type field struct {
	may   func(m *api.Msg, used bool) bool
	write func(w *code.Writer, m *api.Msg)
	read  func(r *code.Reader, m *api.Msg)
}

func fields() [fieldCount]field {
	return [...]field{
		fieldEpoch: varying(api.MaxNumber, func(m *api.Msg) *uint64 { return &m.Epoch }),
		fieldTag: both(
			varying(api.MaxNumber, func(m *api.Msg) *uint64 { return &m.Tag.Epoch }),
			varying(api.MaxNumber, func(m *api.Msg) *uint64 { return &m.Tag.Seq }),
		),
		fieldRound:  varying(api.MaxNumber, func(m *api.Msg) *uint64 { return &m.Round }),
		fieldSpan:   varying(api.MaxPatience+1, func(m *api.Msg) *int { return &m.Span }),
		fieldSeen:   varying(api.MaxNumber, func(m *api.Msg) *uint64 { return &m.Seen }),
		fieldValue:  value(),
		fieldPeer:   small(api.MaxShards-1, func(m *api.Msg) *int { return &m.Peer }),
		fieldNumber: varying(api.MaxNumber, func(m *api.Msg) *uint64 { return &m.Number }),
		fieldName:   name(func(m *api.Msg) *string { return &m.Name }),
		fieldOther:  name(func(m *api.Msg) *string { return &m.Other }),
		fieldAmount: varying(api.MaxSupply, func(m *api.Msg) *uint64 { return &m.Amount }),
		fieldCall: both(
			varying(api.MaxNumber, func(m *api.Msg) *uint64 { return &m.Call.Life }),
			varying(api.MaxNumber, func(m *api.Msg) *uint64 { return &m.Call.ID }),
		),
		fieldOp:     small(api.CallStatus, func(m *api.Msg) *int { return &m.Op }),
		fieldClient: small(api.MaxClients-1, func(m *api.Msg) *int { return &m.Client }),
		fieldState:  small(api.StateOld, func(m *api.Msg) *int { return &m.State }),
		fieldBad:    bad(),
	}
}

// within tells whether a number is from 0 to the greatest that it may be, which is 0 where it is not used.
func within[T ~int | ~uint64](n, most T, used bool) bool {
	if !used {
		most = 0
	}
	return n >= 0 && n <= most
}

// varying is a number in as few bytes as it needs.
func varying[T ~int | ~uint64](most T, at func(m *api.Msg) *T) field {
	return field{
		may:   func(m *api.Msg, used bool) bool { return within(*at(m), most, used) },
		write: func(w *code.Writer, m *api.Msg) { w.Var(uint64(*at(m))) },
		read:  func(r *code.Reader, m *api.Msg) { *at(m) = T(r.Var(uint64(most))) },
	}
}

// small is a number in one byte.
func small(most int, at func(m *api.Msg) *int) field {
	return field{
		may:   func(m *api.Msg, used bool) bool { return within(*at(m), most, used) },
		write: func(w *code.Writer, m *api.Msg) { w.U8(uint8(*at(m))) },
		read:  func(r *code.Reader, m *api.Msg) { *at(m) = int(r.U8()) },
	}
}

func name(at func(m *api.Msg) *string) field {
	return field{
		may:   func(m *api.Msg, used bool) bool { return within(len(*at(m)), api.MaxName, used) },
		write: func(w *code.Writer, m *api.Msg) { w.Bytes([]byte(*at(m))) },
		read:  func(r *code.Reader, m *api.Msg) { *at(m) = string(r.Bytes(api.MaxName)) },
	}
}

func value() field {
	return field{
		may:   func(m *api.Msg, used bool) bool { return within(len(m.Value), api.MaxValue, used) },
		write: func(w *code.Writer, m *api.Msg) { w.Bytes(m.Value) },
		read:  func(r *code.Reader, m *api.Msg) { m.Value = r.Bytes(api.MaxValue) },
	}
}

// bad is a verdict: OK, which is far below the others, or one of those.
func bad() field {
	f := varying(api.BadNumber, func(m *api.Msg) *api.Errno { return &m.Bad })
	bounded := f.may
	f.may = func(m *api.Msg, used bool) bool {
		return bounded(m, used) && (m.Bad == api.OK || m.Bad >= api.BadAccount)
	}
	return f
}

// both is one part behind the other.
func both(first, second field) field {
	return field{
		may:   func(m *api.Msg, used bool) bool { return first.may(m, used) && second.may(m, used) },
		write: func(w *code.Writer, m *api.Msg) { first.write(w, m); second.write(w, m) },
		read:  func(r *code.Reader, m *api.Msg) { first.read(r, m); second.read(r, m) },
	}
}
