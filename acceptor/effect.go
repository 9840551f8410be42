package acceptor

import (
	"maps"
	"slices"
	"strings"

	"pannier/api"
	"pannier/ballot"
	"pannier/codec"
)

// effect is what comes of a message. It stands apart from being carried out, so that one may ask for the
// record alone.
type effect struct {
	answer  int // its kind
	changes bool
	record  string
	do      func()
}

// kinds answers what is made of the kinds of messages that an acceptor takes.
func kinds() map[int]func(a *Acceptor, m api.Msg) effect {
	return map[int]func(a *Acceptor, m api.Msg) effect{
		api.MsgPrepare: onPrepare,
		api.MsgAccept:  onAccept,
	}
}

// effectOf answers what comes of m, and whether it is a message that a takes.
func (a *Acceptor) effectOf(m api.Msg) (effect, bool) {
	if a.closed() || m.To != a.node {
		return effect{}, false
	}
	on, is := kinds()[m.Kind]
	if !is {
		return effect{}, false
	}
	bytes, err := codec.Msg(m)
	if err != api.OK {
		return effect{}, false
	}
	e := on(a, m)
	if e.changes {
		e.record = string(bytes)
	}
	return e, true
}

func onPrepare(a *Acceptor, m api.Msg) effect {
	if a.promisedAbove(m.Ballot) {
		return refusal()
	}
	return effect{
		answer:  api.MsgPromise,
		changes: m.Ballot != a.promised,
		do:      func() { a.promised = m.Ballot },
	}
}

func onAccept(a *Acceptor, m api.Msg) effect {
	before, has := a.votes[m.Slot]
	if a.promisedAbove(m.Ballot) || !has && len(a.votes) >= api.MaxList {
		return refusal()
	}
	// A vote's ballot is never above what is promised: where the promise rises, the vote changes too.
	return effect{
		answer:  api.MsgAccepted,
		changes: !has || m.Ballot != before.Ballot || !sameEntry(m.Entry, before.Entry),
		do: func() {
			a.promised = m.Ballot
			a.votes[m.Slot] = api.Voted{Slot: m.Slot, Ballot: m.Ballot, Entry: kept(m.Entry)}
		},
	}
}

func refusal() effect {
	return effect{answer: api.MsgNack, do: func() {}}
}

// promisedAbove asks whether what is promised is above b.
func (a *Acceptor) promisedAbove(b api.Ballot) bool {
	return ballot.Compare(a.promised, b) > 0
}

// answer answers m by a message of that kind, when m was carried out: by then m's ballot is what is
// promised, unless m is refused, so that each kind has the ballot promised.
func (a *Acceptor) answer(m api.Msg, kind int) api.Msg {
	out := api.Msg{Kind: kind, From: a.node, To: m.From, Ballot: a.promised, Slot: m.Slot, Entry: api.Entry{Noop: true}}
	if kind == api.MsgPromise {
		out.Voted = a.votesFrom(m.Slot)
	}
	return out
}

// votesFrom answers the votes of that slot and above, by rising slots.
func (a *Acceptor) votesFrom(slot int) []api.Voted {
	var votes []api.Voted
	for _, at := range slices.Sorted(maps.Keys(a.votes)) {
		if at < slot {
			continue
		}
		v := a.votes[at]
		v.Entry = told(v.Entry)
		votes = append(votes, v)
	}
	return votes
}

func sameEntry(a, b api.Entry) bool {
	return a.Noop == b.Noop && a.Seal.Token == b.Seal.Token && a.Seal.Cart == b.Seal.Cart &&
		a.Seal.Epoch == b.Seal.Epoch && slices.Equal(a.Seal.Cut, b.Seal.Cut)
}

// told answers e with a list of its own.
func told(e api.Entry) api.Entry {
	e.Seal.Cut = append([]int(nil), e.Seal.Cut...)
	return e
}

// kept answers e with nothing of whoever told it: a name that is a piece of a longer text would keep all of that.
func kept(e api.Entry) api.Entry {
	e.Seal.Token, e.Seal.Cart = strings.Clone(e.Seal.Token), strings.Clone(e.Seal.Cart)
	return told(e)
}
