package acceptor_test

import (
	"math/rand"
	"reflect"
	"slices"
	"testing"

	"pannier/acceptor"
	"pannier/api"
)

// plainAcceptor has all messages that were taken and not refused: what is promised is the greatest ballot
// of these, a slot's vote is the last one that asked for it.
type plainAcceptor struct {
	taken   []api.Msg
	dropped []int // of how many that were taken the votes were dropped, and below which slot, by turns
}

func above(a, b api.Ballot) bool {
	return a.Round > b.Round || a.Round == b.Round && a.Node > b.Node
}

func (p *plainAcceptor) promised() api.Ballot {
	var greatest api.Ballot
	for _, m := range p.taken {
		if above(m.Ballot, greatest) {
			greatest = m.Ballot
		}
	}
	return greatest
}

func (p *plainAcceptor) isDropped(at, slot int) bool {
	for drop := range slices.Chunk(p.dropped, 2) {
		if at < drop[0] && slot < drop[1] {
			return true
		}
	}
	return false
}

func (p *plainAcceptor) votes() []api.Voted {
	last := map[int]api.Voted{}
	for at, m := range p.taken {
		if m.Kind == api.MsgAccept && !p.isDropped(at, m.Slot) {
			last[m.Slot] = voted(m.Slot, m.Ballot, m.Entry)
		}
	}
	var out []api.Voted
	for _, v := range last {
		out = append(out, v)
	}
	slices.SortFunc(out, func(a, b api.Voted) int { return a.Slot - b.Slot })
	return out
}

// on is On of a message that may be, in a world of few slots.
func (p *plainAcceptor) on(m api.Msg) (wanted api.Msg, isRecord bool) {
	promised, votes := p.promised(), p.votes()
	if above(promised, m.Ballot) {
		return answer(m, api.MsgNack, promised), false
	}
	p.taken = append(p.taken, m)
	isRecord = p.promised() != promised || !reflect.DeepEqual(plainVotes(votes), plainVotes(p.votes()))
	if m.Kind == api.MsgAccept {
		return answer(m, api.MsgAccepted, m.Ballot), isRecord
	}
	votes = slices.DeleteFunc(votes, func(v api.Voted) bool { return v.Slot < m.Slot })
	return answer(m, api.MsgPromise, m.Ballot, votes...), isRecord
}

// history is an acceptor with its records, and what it was ahead of all and behind each of them.
type history struct {
	a        *acceptor.Acceptor
	p        plainAcceptor
	recs     []string
	promised []api.Ballot
	votes    [][]api.Voted
}

func newHistory(t *testing.T) *history {
	h := &history{a: newAcceptor(t, node)}
	h.look()
	return h
}

func (h *history) look() {
	h.promised, h.votes = append(h.promised, h.a.Promised()), append(h.votes, h.a.Votes())
}

// take lets both take a message, and looks whether P16.3 holds.
func (h *history) take(t *testing.T, m api.Msg) {
	t.Helper()
	before := h.a.Promised()
	wanted, isRecord := h.p.on(m)
	wantOn(t, h.a, m, wanted, isRecord)
	wantState(t, "as the plain one", h.a, h.p.promised(), h.p.votes()...)
	promised := h.a.Promised()
	if above(before, promised) {
		t.Errorf("what is promised fell from %v to %v", before, promised)
	}
	for _, v := range h.a.Votes() {
		if above(v.Ballot, promised) {
			t.Errorf("a vote %v above %v", v, promised)
		}
	}
	if wanted.Kind == api.MsgAccepted && above(before, m.Ballot) {
		t.Errorf("a vote in %v, with %v promised", m.Ballot, before)
	}
	if isRecord {
		h.recs = append(h.recs, bytesOf(t, m))
		h.look()
	}
}

// replay looks whether P16.4 holds of all beginnings of the records, where nothing was dropped.
func (h *history) replay(t *testing.T) {
	t.Helper()
	b := newAcceptor(t, node)
	wantState(t, "no record", b, h.promised[0], h.votes[0]...)
	for i, rec := range h.recs {
		wantReplay(t, "a record", b, rec, api.OK)
		wantState(t, "replayed", b, h.promised[i+1], h.votes[i+1]...)
	}
	wantState(t, "replayed to the end", b, h.a.Promised(), h.a.Votes()...)
}

// All scripts of three messages out of few.
func TestAllSmallScripts(t *testing.T) {
	var few []api.Msg
	for _, b := range []api.Ballot{round(0, 0), round(0, 1), round(1, 0)} {
		for slot := range 2 {
			few = append(few, prepare(b, slot), accept(b, slot, noop()), accept(b, slot, entry("t", 1)))
		}
	}
	for _, first := range few {
		for _, second := range few {
			for _, third := range few {
				h := newHistory(t)
				for _, m := range []api.Msg{first, second, third} {
					h.take(t, m)
				}
				h.replay(t)
			}
		}
	}
}

func randomMessage(rng *rand.Rand) api.Msg {
	b, slot := round(rng.Intn(4), rng.Intn(3)), rng.Intn(5)
	if rng.Intn(3) == 0 {
		return prepare(b, slot)
	}
	entries := []api.Entry{noop(), entry("a"), entry("a", 1), entry("b", 0, 2)}
	return accept(b, slot, entries[rng.Intn(len(entries))])
}

func spoiled(rng *rand.Rand, m api.Msg) api.Msg {
	switch rng.Intn(4) {
	case 0:
		m.To = rng.Intn(2)
	case 1:
		m.Kind = 4 + rng.Intn(9)
	case 2:
		m.Slot = -1 - rng.Intn(9)
	case 3:
		m.Entry = api.Entry{}
	}
	return m
}

func TestRandomScripts(t *testing.T) {
	for seed := range int64(300) {
		rng := rand.New(rand.NewSource(seed))
		h := newHistory(t)
		for range 60 {
			m := randomMessage(rng)
			switch rng.Intn(8) {
			case 0:
				wantNone(t, "spoiled", h.a, spoiled(rng, m))
			case 1:
				other := h.a
				h.a = h.a.Fork()
				other.On(accept(round(9, 0), 1, entry("other")))
				other.Drop(3)
			default:
				h.take(t, m)
			}
		}
		h.replay(t)
		if t.Failed() {
			t.Fatalf("seed %d", seed)
		}
	}
}

// With slots that are dropped now and then: what is replayed has the same promise, and the same votes but
// those that were dropped; one that drops at the same places is just the same.
func TestRandomDrops(t *testing.T) {
	for seed := range int64(300) {
		rng := rand.New(rand.NewSource(seed))
		h := newHistory(t)
		whole, dropping := newAcceptor(t, node), newAcceptor(t, node)
		for range 60 {
			if rng.Intn(6) == 0 {
				below := rng.Intn(7) - 1
				h.a.Drop(below)
				dropping.Drop(below)
				h.p.dropped = append(h.p.dropped, len(h.p.taken), below)
				wantState(t, "dropped", h.a, h.p.promised(), h.p.votes()...)
				continue
			}
			records := len(h.recs)
			h.take(t, randomMessage(rng))
			for _, rec := range h.recs[records:] {
				wantReplay(t, "a record", whole, rec, api.OK)
				wantReplay(t, "a record", dropping, rec, api.OK)
			}
			wantState(t, "with the same drops", dropping, h.a.Promised(), h.a.Votes()...)
			wantWhole(t, whole, h)
		}
		if t.Failed() {
			t.Fatalf("seed %d", seed)
		}
	}
}

// wantWhole looks whether what was replayed without drops has all that h has, and more only in slots that h has not.
func wantWhole(t *testing.T, whole *acceptor.Acceptor, h *history) {
	t.Helper()
	has := map[int]api.Voted{}
	for _, v := range h.a.Votes() {
		has[v.Slot] = v
	}
	votes := slices.DeleteFunc(whole.Votes(), func(v api.Voted) bool {
		_, is := has[v.Slot]
		return !is
	})
	if whole.Promised() != h.a.Promised() || !reflect.DeepEqual(plainVotes(votes), plainVotes(h.a.Votes())) {
		t.Errorf("replayed: %v, %v, not %v, %v", whole.Promised(), votes, h.a.Promised(), h.a.Votes())
	}
}
