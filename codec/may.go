package codec

import "pannier/api"

const (
	maxNode = api.MaxNodes - 1
	maxKind = 255
)

// Name asks whether s may be a name.
func Name(s string) bool {
	if len(s) < 1 || len(s) > api.MaxName {
		return false
	}
	for i := range len(s) {
		if !nameByte(s[i]) {
			return false
		}
	}
	return true
}

func nameByte(c byte) bool {
	return 'a' <= c && c <= 'z' || '0' <= c && c <= '9' || c == '-'
}

// upTo asks whether x is 0 to most.
func upTo(x, most int) bool {
	return 0 <= x && x <= most
}

func every[T any](l []T, may func(x T) bool) bool {
	for _, x := range l {
		if !may(x) {
			return false
		}
	}
	return true
}

// mayList asks first how long l is, so that a list that is too long is not gone over.
func mayList[T any](l []T, most int, may func(x T) bool) bool {
	return len(l) <= most && every(l, may)
}

// plain asks whether a count vector's last number is not 0: with noughts there two forms would say the same.
func plain(v []int) bool {
	return len(v) == 0 || v[len(v)-1] != 0
}

func mayVector(v []int) bool {
	return mayList(v, api.MaxNodes, func(x int) bool { return upTo(x, api.MaxSeq) }) && plain(v)
}

func mayEvent(e api.Event) bool {
	return upTo(e.Dot.Origin, maxNode) && upTo(e.Dot.Seq, api.MaxSeq) && mayVector(e.Deps) &&
		Name(e.Cart) && upTo(e.Epoch, api.MaxSeq) && Name(e.Sku) && upTo(e.Qty, api.MaxQty)
}

func maySeal(s api.Seal) bool {
	return Name(s.Token) && Name(s.Cart) && upTo(s.Epoch, api.MaxSeq) && mayVector(s.Cut)
}

func emptySeal(s api.Seal) bool {
	return s.Token == "" && s.Cart == "" && s.Epoch == 0 && len(s.Cut) == 0
}

func mayBallot(b api.Ballot) bool {
	return upTo(b.Round, api.MaxSeq) && upTo(b.Node, maxNode)
}

func mayEntry(e api.Entry) bool {
	if e.Noop {
		return emptySeal(e.Seal)
	}
	return maySeal(e.Seal)
}

func mayVoted(v api.Voted) bool {
	return upTo(v.Slot, api.MaxSeq) && mayBallot(v.Ballot) && mayEntry(v.Entry)
}

func mayMsg(m api.Msg) bool {
	return upTo(m.Kind, maxKind) && upTo(m.From, maxNode) && upTo(m.To, maxNode) &&
		mayBallot(m.Ballot) && upTo(m.Slot, api.MaxSeq) && mayEntry(m.Entry) &&
		mayList(m.Voted, api.MaxList, mayVoted) && mayVector(m.Seen) &&
		mayList(m.Events, api.MaxList, mayEvent) && upTo(m.Time, api.MaxTime)
}
