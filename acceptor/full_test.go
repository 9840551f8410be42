package acceptor_test

import (
	"testing"

	"pannier/acceptor"
	"pannier/api"
)

// full is an acceptor with votes in MaxList slots (each third one), in the ballot (2, 2), and its records.
func full(t *testing.T) (*acceptor.Acceptor, []string) {
	t.Helper()
	a := newAcceptor(t, node)
	var recs []string
	for i := range api.MaxList {
		// Backwards, so that the slots do not come in their order.
		m := accept(round(2, 2), 3*(api.MaxList-1-i), entry("t", i+1))
		got, rec, is := a.On(m)
		if !is || got.Kind != api.MsgAccepted || rec == "" {
			t.Fatalf("On(%v): %v, %v", m, got, is)
		}
		recs = append(recs, rec)
	}
	return a, recs
}

func fullVotes() []api.Voted {
	var all []api.Voted
	for i := range api.MaxList {
		all = append(all, voted(3*i, round(2, 2), entry("t", api.MaxList-i)))
	}
	return all
}

// Votes in MaxList slots: no other slot gets one, whatever its ballot; in those that have one all goes on.
func TestFull(t *testing.T) {
	a, recs := full(t)
	all := fullVotes()
	wantState(t, "full", a, round(2, 2), all...)
	for _, slot := range []int{1, 3*api.MaxList - 1, 3 * api.MaxList, api.MaxSeq} {
		for _, b := range []api.Ballot{round(1, 0), round(2, 1), round(2, 2), round(2, 3), round(9, 0), round(api.MaxSeq, 6)} {
			m := accept(b, slot, entry("new"))
			wantOn(t, a, m, answer(m, api.MsgNack, round(2, 2)), false)
			wantReplay(t, "full", a, bytesOf(t, m), api.ErrCode)
		}
	}
	wantState(t, "still full", a, round(2, 2), all...)
	same := accept(round(2, 2), 0, all[0].Entry)
	wantOn(t, a, same, answer(same, api.MsgAccepted, round(2, 2)), false)
	again := accept(round(2, 3), 3, entry("u"))
	wantOn(t, a, again, answer(again, api.MsgAccepted, round(2, 3)), true)
	all[1] = voted(3, round(2, 3), entry("u"))
	ask := prepare(round(3, 0), 0)
	wantOn(t, a, ask, answer(ask, api.MsgPromise, round(3, 0), all...), true)
	ask.Slot = 4
	wantOn(t, a, ask, answer(ask, api.MsgPromise, round(3, 0), all[2:]...), false)

	b := newAcceptor(t, node)
	for _, rec := range append(recs, bytesOf(t, again), bytesOf(t, ask)) {
		wantReplayed(t, b, rec)
	}
	wantState(t, "replayed", b, round(3, 0), all...)
}

// One slot that is dropped makes room for one.
func TestFullAndDropped(t *testing.T) {
	a, recs := full(t)
	a.Drop(1)
	first, second := accept(round(2, 2), 1, entry("new")), accept(round(2, 2), 2, entry("new"))
	wantOn(t, a, first, answer(first, api.MsgAccepted, round(2, 2)), true)
	wantOn(t, a, second, answer(second, api.MsgNack, round(2, 2)), false)
	wanted := fullVotes()
	wanted[0] = voted(1, round(2, 2), entry("new"))
	wantState(t, "dropped", a, round(2, 2), wanted...)

	// The record is taken by one that drops as this one did, and by no other one.
	b := newAcceptor(t, node)
	for _, rec := range recs {
		wantReplayed(t, b, rec)
	}
	wantReplay(t, "without a drop", b.Fork(), bytesOf(t, first), api.ErrCode)
	b.Drop(1)
	wantReplayed(t, b, bytesOf(t, first))
	wantState(t, "replayed", b, round(2, 2), wanted...)
}

// wantReplayed is a quick wantReplay, for many.
func wantReplayed(t *testing.T, a *acceptor.Acceptor, rec string) {
	t.Helper()
	if err := a.Replay(rec); err != api.OK {
		t.Fatalf("Replay(%q): %d", rec, err)
	}
}
