package codec

import "pannier/api"

// Event answers e's bytes.
func Event(e api.Event) ([]byte, api.Errno) {
	return written(e, mayEvent, appendEvent)
}

// Seal answers s's bytes.
func Seal(s api.Seal) ([]byte, api.Errno) {
	return written(s, maySeal, appendSeal)
}

// Msg answers m's bytes.
func Msg(m api.Msg) ([]byte, api.Errno) {
	return written(m, mayMsg, appendMsg)
}

func written[T any](x T, may func(x T) bool, put func(b []byte, x T) []byte) ([]byte, api.Errno) {
	if !may(x) {
		return nil, api.ErrArg
	}
	b := put(nil, x)
	if len(b) > api.MaxRecord {
		return nil, api.ErrLong
	}
	return b, api.OK
}

// appendNumber writes what is known not to be below 0.
func appendNumber(b []byte, x int) []byte {
	return appendUint(b, uint64(x))
}

func appendTruth(b []byte, is bool) []byte {
	if is {
		return append(b, 1)
	}
	return append(b, 0)
}

func appendVector(b []byte, v []int) []byte {
	return appendList(b, v, appendNumber)
}

func appendEvent(b []byte, e api.Event) []byte {
	b = appendNumber(b, e.Dot.Origin)
	b = appendNumber(b, e.Dot.Seq)
	b = appendVector(b, e.Deps)
	b = appendText(b, e.Cart)
	b = appendNumber(b, e.Epoch)
	b = appendText(b, e.Sku)
	b = appendNumber(b, e.Qty)
	return appendTruth(b, e.Clears)
}

func appendSeal(b []byte, s api.Seal) []byte {
	b = appendText(b, s.Token)
	b = appendText(b, s.Cart)
	b = appendNumber(b, s.Epoch)
	return appendVector(b, s.Cut)
}

func appendBallot(b []byte, x api.Ballot) []byte {
	return appendNumber(appendNumber(b, x.Round), x.Node)
}

func appendEntry(b []byte, e api.Entry) []byte {
	b = appendTruth(b, e.Noop)
	if e.Noop {
		return b
	}
	return appendSeal(b, e.Seal)
}

func appendVoted(b []byte, v api.Voted) []byte {
	b = appendNumber(b, v.Slot)
	b = appendBallot(b, v.Ballot)
	return appendEntry(b, v.Entry)
}

func appendMsg(b []byte, m api.Msg) []byte {
	b = appendNumber(b, m.Kind)
	b = appendNumber(b, m.From)
	b = appendNumber(b, m.To)
	b = appendBallot(b, m.Ballot)
	b = appendNumber(b, m.Slot)
	b = appendEntry(b, m.Entry)
	b = appendList(b, m.Voted, appendVoted)
	b = appendVector(b, m.Seen)
	b = appendList(b, m.Events, appendEvent)
	return appendNumber(b, m.Time)
}
