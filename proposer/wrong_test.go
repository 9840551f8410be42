package proposer_test

import (
	"math"
	"slices"
	"strings"
	"testing"

	"pannier/api"
	"pannier/proposer"
)

// wrong are messages that may not be, or are for another node, but for which they would be taken.
func wrong() map[string]func(m *api.Msg) {
	long := make([]api.Voted, api.MaxList)
	for i := range long {
		long[i] = voted(i, round(1, 1), entry(strings.Repeat("t", api.MaxName)))
	}
	return map[string]func(m *api.Msg){
		"From below 0":            func(m *api.Msg) { m.From = -1 },
		"From that there is not":  func(m *api.Msg) { m.From = 3 },
		"From above all":          func(m *api.Msg) { m.From = api.MaxNodes },
		"From that wraps round":   func(m *api.Msg) { m.From = math.MinInt },
		"no entry":                func(m *api.Msg) { m.Entry = api.Entry{} },
		"a Noop with a seal":      func(m *api.Msg) { m.Entry = entry("t"); m.Entry.Noop = true },
		"a Noop with a cut":       func(m *api.Msg) { m.Entry = api.Entry{Noop: true, Seal: api.Seal{Cut: []int{1}}} },
		"a wrong token":           func(m *api.Msg) { m.Entry = entry("T") },
		"a wrong cart":            func(m *api.Msg) { m.Entry = entry("t"); m.Entry.Seal.Cart = "" },
		"a cut that ends with 0":  func(m *api.Msg) { m.Entry = entry("t", 1, 0) },
		"a vote of no slot":       func(m *api.Msg) { m.Voted = []api.Voted{voted(-1, round(1, 1), noop())} },
		"a vote beyond all slots": func(m *api.Msg) { m.Voted = []api.Voted{voted(api.MaxSeq+1, round(1, 1), noop())} },
		"a vote in no ballot":     func(m *api.Msg) { m.Voted = []api.Voted{voted(4, round(-1, 1), noop())} },
		"a vote for no entry":     func(m *api.Msg) { m.Voted = []api.Voted{voted(4, round(1, 1), api.Entry{})} },
		"the last vote wrong":     func(m *api.Msg) { m.Voted = []api.Voted{voted(4, round(1, 1), noop()), {}} },
		"too many votes":          func(m *api.Msg) { m.Voted = slices.Repeat([]api.Voted{voted(4, round(0, 0), noop())}, api.MaxList+1) },
		"too many bytes":          func(m *api.Msg) { m.Voted = long },
		"a wrong Seen":            func(m *api.Msg) { m.Seen = []int{0} },
		"a wrong event":           func(m *api.Msg) { m.Events = []api.Event{{}} },
		"Time below 0":            func(m *api.Msg) { m.Time = -1 },
		"Time above all":          func(m *api.Msg) { m.Time = api.MaxTime + 1 },
		"To below 0":              func(m *api.Msg) { m.To = -1 },
		"To above all":            func(m *api.Msg) { m.To = api.MaxNodes },
		"for another node":        func(m *api.Msg) { m.To = node + 1 },
		"for the node ahead":      func(m *api.Msg) { m.To = node - 1 },
		"To that wraps round":     func(m *api.Msg) { m.To = math.MinInt + node },
		"Slot below 0":            func(m *api.Msg) { m.Slot = -1 },
		"Slot above all":          func(m *api.Msg) { m.Slot = api.MaxSeq + 1 },
		"Round below 0":           func(m *api.Msg) { m.Ballot.Round = -1 },
		"Round above all":         func(m *api.Msg) { m.Ballot.Round = api.MaxSeq + 1 },
		"a great Round":           func(m *api.Msg) { m.Ballot.Round = math.MaxInt },
		"Node below 0":            func(m *api.Msg) { m.Ballot.Node = -1 },
		"Node above all":          func(m *api.Msg) { m.Ballot = round(2, api.MaxNodes) },
		"Kind below 0":            func(m *api.Msg) { m.Kind = -m.Kind },
		"a byte's Kind":           func(m *api.Msg) { m.Kind += 256 },
		"a Kind that wraps round": func(m *api.Msg) { m.Kind += math.MinInt },
	}
}

// telling are messages that change one that prepares in (1, 1) and has one promise, or one that leads; and which of both.
func telling() []api.Msg {
	b := round(1, node)
	return []api.Msg{promise(2, b, 4), promise(2, b, 4, voted(4, round(0, 0), entry("v"))), accepted(0, b, 5), nack(0, round(3, 0))}
}

func half(t *testing.T) *proposer.Proposer {
	t.Helper()
	p := asking(t, 4)
	wantOn(t, "one promise", p, promise(0, round(1, node), 4), nil)
	return p
}

func TestWrongMessages(t *testing.T) {
	for _, m := range telling() {
		changed := 0
		for _, p := range []*proposer.Proposer{newProposer(t, node, 3), half(t), leader(t)} {
			for what, spoil := range wrong() {
				m := m
				spoil(&m)
				wantNone(t, what, p, m)
			}
			before := p.Phase()
			if _, chosen := p.On(m); p.Phase() != before || len(chosen) > 0 {
				changed++
			}
		}
		if changed == 0 {
			t.Errorf("%v is no message that would be taken", m)
		}
	}
}

func TestOtherKinds(t *testing.T) {
	for kind := range 256 {
		if kind == api.MsgPromise || kind == api.MsgAccepted || kind == api.MsgNack {
			continue
		}
		for _, m := range telling() {
			m.Kind = kind
			wantNone(t, "another kind", half(t), m)
			wantNone(t, "another kind", leader(t), m)
		}
	}
	wantNone(t, "an empty message", half(t), api.Msg{})
}

// What a kind does not use may be there, and is in nothing that is sent.
func TestWhatIsNotUsed(t *testing.T) {
	more := func(m api.Msg) api.Msg {
		m.Entry = entry("more", 1)
		m.Seen, m.Time = []int{0, 4}, 77
		m.Events = []api.Event{{Dot: api.Dot{Origin: 1, Seq: 2}, Deps: []int{1}, Cart: "c", Sku: "tea", Qty: 1}}
		return m
	}
	b := round(1, node)
	p := half(t)
	wantOn(t, "a promise", p, more(promise(2, b, 4, voted(4, round(0, 2), entry("v")))), accepts(b, 4, entry("v"), 0, 1, 2))
	votes := more(accepted(0, b, 4))
	votes.Voted = []api.Voted{voted(9, round(9, 0), entry("x"))}
	wantOn(t, "a vote", p, votes, nil)
	wantOn(t, "a vote", p, more(accepted(2, b, 4)), nil, voted(4, b, entry("v")))
	wantOn(t, "a refusal", p, more(nack(0, round(2, 0))), nil)
	wantState(t, "refused", p, idle(round(2, 0)))
}

// spoilMsgs changes all lists of what was sent.
func spoilMsgs(l []api.Msg) {
	for i := range l {
		spoilCut(l[i].Entry.Seal.Cut)
		l[i].Slot = 99
	}
	_ = append(l, api.Msg{Kind: 99})
}

func spoilVotes(l []api.Voted) {
	for i := range l {
		spoilCut(l[i].Entry.Seal.Cut)
		l[i].Slot = 99
	}
	_ = append(l, voted(99, round(99, 0), noop()))
}

func spoilCut(cut []int) {
	for i := range cut {
		cut[i] = 99
	}
	_ = append(cut, 99)
}

// Nothing that is handed in is kept or changed, and what is answered is new each time.
func TestNothingIsShared(t *testing.T) {
	b := round(1, node)
	room := []int{1, 2, 3}
	told := entry("v")
	told.Seal.Cut = room[:2]
	votes := []api.Voted{voted(4, round(0, 2), told), voted(8, round(0, 2), noop())}
	p := asking(t, 4)
	wantOn(t, "one", p, promise(0, b, 4, votes[:1]...), nil)
	fork := p.Fork()
	if !slices.Equal(room, []int{1, 2, 3}) || votes[1].Slot != 8 {
		t.Error("what was handed in was changed:", room, votes)
	}
	room[0], room[2], votes[0].Slot = 9, 9, 5
	out, _ := p.On(promise(2, b, 4))
	wantMsgs(t, "the promise was changed", out, accepts(b, 4, entry("v", 1, 2), 0, 1, 2))
	spoilCut(out[0].Entry.Seal.Cut)
	wantMsgs(t, "one of those that were sent was changed", out[1:], accepts(b, 4, entry("v", 1, 2), 1, 2))
	spoilMsgs(out)

	given := entry("g")
	given.Seal.Cut = room[:2]
	room[0], room[1], room[2] = 5, 6, 7
	sent, slot, _ := p.Propose(given)
	if !slices.Equal(room, []int{5, 6, 7}) || slot != 5 {
		t.Error("what was handed in was changed:", room, slot)
	}
	spoilCut(room)
	wanted := state{
		phase: api.PhaseLeading, ballot: b, seen: b, next: 6,
		flights: []api.Voted{voted(4, b, entry("v", 1, 2)), voted(5, b, entry("g", 5, 6))},
		again:   slices.Concat(accepts(b, 4, entry("v", 1, 2), 0, 1, 2), accepts(b, 5, entry("g", 5, 6), 0, 1, 2)),
	}
	wantState(t, "what was proposed was changed", p, wanted)
	spoilCut(sent[2].Entry.Seal.Cut)
	wantMsgs(t, "one of those that were sent was changed", sent[:2], accepts(b, 5, entry("g", 5, 6), 0, 1))
	other := p.Fork()
	spoilMsgs(sent)
	spoilMsgs(p.Again())
	spoilVotes(p.Flights())
	wantState(t, "what was sent was changed", p, wanted)
	wantState(t, "and of the fork", other, wanted)
	p.On(accepted(0, b, 5))
	_, chosen := p.On(accepted(1, b, 5))
	spoilVotes(chosen)
	wantState(t, "what was chosen was changed", other, wanted)
	out, _ = fork.On(promise(1, b, 4))
	wantMsgs(t, "the fork that was preparing", out, accepts(b, 4, entry("v", 1, 2), 0, 1, 2))
}
