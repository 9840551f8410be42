package codec

import "pannier/api"

// ReadEvent answers the event with which b begins, and how many bytes it has.
func ReadEvent(b []byte) (api.Event, int, api.Errno) {
	return readBounded(b, eventOf)
}

// ReadSeal answers the seal with which b begins, and how many bytes it has.
func ReadSeal(b []byte) (api.Seal, int, api.Errno) {
	return readBounded(b, sealOf)
}

// ReadMsg answers the message that b is, from its beginning to its end.
func ReadMsg(b []byte) (api.Msg, api.Errno) {
	m, n, err := readBounded(b, msgOf)
	if err != api.OK || n != len(b) {
		return api.Msg{}, api.ErrCode
	}
	return m, api.OK
}

func readBounded[T any](b []byte, part func(r *reader) T) (T, int, api.Errno) {
	if len(b) > api.MaxRecord {
		var none T
		return none, 0, api.ErrCode
	}
	return readBy(b, part)
}

// readBy reads a value by its parts.
func readBy[T any](b []byte, part func(r *reader) T) (T, int, api.Errno) {
	r := reader{bytes: b}
	x := part(&r)
	if r.err != api.OK {
		var none T
		return none, 0, r.err
	}
	return x, r.at, api.OK
}

// reader goes over bytes part by part. Behind the first part that is refused it reads nothing more, so
// that the parts may be asked for one behind the other, and the error once.
type reader struct {
	bytes []byte
	at    int
	err   api.Errno
}

// take reads one part.
func take[T any](r *reader, read func(b []byte) (T, int, api.Errno)) T {
	var none T
	if r.err != api.OK {
		return none
	}
	x, n, err := read(r.bytes[r.at:])
	if err != api.OK {
		r.err = err
		return none
	}
	r.at += n
	return x
}

// demand refuses what was read, unless it may be.
func (r *reader) demand(may bool) {
	if r.err == api.OK && !may {
		r.err = api.ErrCode
	}
}

// number reads a number of at most most.
func (r *reader) number(most uint64) int {
	x := take(r, ReadUint)
	r.demand(x <= most)
	return int(x)
}

func (r *reader) truth() bool {
	return r.number(1) == 1
}

func (r *reader) name() string {
	s := take(r, func(b []byte) (string, int, api.Errno) { return ReadText(b, api.MaxName) })
	r.demand(Name(s))
	return s
}

// listOf reads a list of at most most items, each by its parts.
func listOf[T any](r *reader, most int, part func(r *reader) T) []T {
	return take(r, func(b []byte) ([]T, int, api.Errno) {
		return ReadList(b, most, func(b []byte) (T, int, api.Errno) { return readBy(b, part) })
	})
}

func (r *reader) vector() []int {
	v := listOf(r, api.MaxNodes, func(r *reader) int { return r.number(api.MaxSeq) })
	r.demand(plain(v))
	return v
}

func eventOf(r *reader) api.Event {
	var e api.Event
	e.Dot.Origin = r.number(maxNode)
	e.Dot.Seq = r.number(api.MaxSeq)
	e.Deps = r.vector()
	e.Cart = r.name()
	e.Epoch = r.number(api.MaxSeq)
	e.Sku = r.name()
	e.Qty = r.number(api.MaxQty)
	e.Clears = r.truth()
	return e
}

func sealOf(r *reader) api.Seal {
	var s api.Seal
	s.Token = r.name()
	s.Cart = r.name()
	s.Epoch = r.number(api.MaxSeq)
	s.Cut = r.vector()
	return s
}

func ballotOf(r *reader) api.Ballot {
	var b api.Ballot
	b.Round = r.number(api.MaxSeq)
	b.Node = r.number(maxNode)
	return b
}

func entryOf(r *reader) api.Entry {
	if r.truth() {
		return api.Entry{Noop: true}
	}
	return api.Entry{Seal: sealOf(r)}
}

func votedOf(r *reader) api.Voted {
	var v api.Voted
	v.Slot = r.number(api.MaxSeq)
	v.Ballot = ballotOf(r)
	v.Entry = entryOf(r)
	return v
}

func msgOf(r *reader) api.Msg {
	var m api.Msg
	m.Kind = r.number(maxKind)
	m.From = r.number(maxNode)
	m.To = r.number(maxNode)
	m.Ballot = ballotOf(r)
	m.Slot = r.number(api.MaxSeq)
	m.Entry = entryOf(r)
	m.Voted = listOf(r, api.MaxList, votedOf)
	m.Seen = r.vector()
	m.Events = listOf(r, api.MaxList, eventOf)
	m.Time = r.number(api.MaxTime)
	return m
}
