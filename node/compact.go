package node

import (
	"cmp"
	"maps"
	"slices"

	"pannier/api"
	"pannier/ballot"
	"pannier/codec"
	"pannier/vv"
)

// Compact puts a snapshot in the stead of all records so far.
func (n *Node) Compact() api.Errno {
	if n.closed() {
		return api.ErrClosed
	}
	records := slices.Concat(n.eventRecords(), n.voteRecords(), n.chosenRecords())
	return n.store.Install(string(codec.List(nil, records, appendText)))
}

// appendText appends in place, as codec.Text does not: many texts would else be copied at each of them.
func appendText(b []byte, s string) []byte {
	return append(b, codec.Text(nil, s)...)
}

// eventRecords are those of all events, applied ones and such that wait.
func (n *Node) eventRecords() []string {
	var records []string
	for _, e := range slices.Concat(n.inTurn(nil, api.MaxDots), n.waitingEvents()) {
		records = append(records, written(eventLetter, eventBody(e)))
	}
	return records
}

// inTurn answers the first most of the applied events that done has not, each behind all that it had seen: so
// none has to wait when they come, and only so many may.
func (n *Node) inTurn(done []int, most int) []api.Event {
	var events []api.Event
	takeNext := func(origin int) bool {
		e, is := n.replica.Get(api.Dot{Origin: origin, Seq: vv.Of(done, origin) + 1})
		if !is || len(events) >= most || !vv.Below(e.Deps, done) {
			return false
		}
		done, _ = vv.With(done, origin, e.Dot.Seq)
		events = append(events, e)
		return true
	}
	for more := true; more; {
		more = false
		for origin := range api.MaxNodes {
			for takeNext(origin) {
				more = true
			}
		}
	}
	return events
}

// waitingEvents answers the events that wait, by rising dots.
func (n *Node) waitingEvents() []api.Event {
	return slices.SortedFunc(maps.Values(n.early), func(a, b api.Event) int {
		return cmp.Or(cmp.Compare(a.Dot.Origin, b.Dot.Origin), cmp.Compare(a.Dot.Seq, b.Dot.Seq))
	})
}

// voteRecords are messages that have an acceptor promise and vote just so: by rising ballots, since it takes
// none below what it promised.
func (n *Node) voteRecords() []string {
	votes := n.acceptor.Votes()
	slices.SortStableFunc(votes, func(a, b api.Voted) int { return ballot.Compare(a.Ballot, b.Ballot) })
	var records []string
	var promised api.Ballot
	for _, v := range votes {
		promised = v.Ballot
		m := api.Msg{Kind: api.MsgAccept, From: v.Ballot.Node, To: n.id, Ballot: v.Ballot, Slot: v.Slot, Entry: v.Entry}
		records = append(records, written(voteLetter, messageBody(m)))
	}
	if b := n.acceptor.Promised(); b != promised {
		m := api.Msg{Kind: api.MsgPrepare, From: b.Node, To: n.id, Ballot: b, Entry: noop()}
		records = append(records, written(voteLetter, messageBody(m)))
	}
	return records
}

// chosenRecords are those of all entries, also beyond gaps.
func (n *Node) chosenRecords() []string {
	var records []string
	add := func(slot int, e api.Entry) {
		records = append(records, written(chosenLetter, n.chosenBody(slot, e)))
	}
	for slot, e := range n.learner.From(0) {
		add(slot, e)
	}
	for _, slot := range n.learner.Extras() {
		e, _ := n.learner.Get(slot)
		add(slot, e)
	}
	return records
}
