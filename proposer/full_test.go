package proposer_test

import (
	"testing"

	"pannier/api"
	"pannier/proposer"
)

// alone is the proposer of one node that prepares from that slot on, in (1, 0).
func alone(t *testing.T, slot int) *proposer.Proposer {
	t.Helper()
	p := newProposer(t, 0, 1)
	wantStart(t, p, api.Ballot{}, slot, prepares(round(1, 0), slot, 0))
	return p
}

func toZero(m api.Msg) api.Msg {
	m.To = 0
	return m
}

// A vote so far above its slot that there would be more than MaxList slots to be proposed makes it idle.
func TestTooManySlots(t *testing.T) {
	b := round(1, 0)
	for _, x := range []struct {
		slot, greatest int
		leads          bool
	}{
		{0, api.MaxList - 1, true}, {0, api.MaxList, false}, {0, api.MaxList + 1, false}, {0, api.MaxSeq, false},
		{7, api.MaxList + 6, true}, {7, api.MaxList + 7, false},
		{api.MaxSeq - api.MaxList + 1, api.MaxSeq, true}, {api.MaxSeq - api.MaxList, api.MaxSeq, false},
	} {
		p := alone(t, x.slot)
		// The greatest one stands between others, in which an order could mislead.
		m := toZero(promise(0, b, x.slot, voted(x.slot, round(0, 3), entry("a")), voted(x.greatest, round(0, 1), entry("z")), voted(x.slot+2, round(0, 2), entry("c"))))
		out, chosen := p.On(m)
		if len(chosen) != 0 {
			t.Error("chosen:", chosen)
		}
		if !x.leads {
			wantMsgs(t, "too many", out, nil)
			wantState(t, "too many", p, idle(b))
			wantStart(t, p, api.Ballot{}, x.slot, prepares(round(2, 0), x.slot, 0))
			wantOn(t, "nothing of it is left", p, toZero(promise(0, round(2, 0), x.slot)), nil)
			wantState(t, "nothing of it is left", p, state{phase: api.PhaseLeading, ballot: round(2, 0), seen: round(2, 0), next: x.slot})
			continue
		}
		var wanted []api.Msg
		for i := range api.MaxList {
			e := noop()
			switch i {
			case 0:
				e = entry("a")
			case 2:
				e = entry("c")
			case api.MaxList - 1:
				e = entry("z")
			}
			wanted = append(wanted, accepts(b, x.slot+i, e, 0)...)
		}
		wantMsgs(t, "just as many", out, wanted)
		if p.Phase() != api.PhaseLeading || p.Next() != x.greatest+1 || len(p.Flights()) != api.MaxList {
			t.Error("just as many:", p.Phase(), p.Next(), len(p.Flights()))
		}
		if _, _, err := p.Propose(noop()); err != api.ErrFull {
			t.Error("full:", err)
		}
	}
}

// Those of two promises together may be too far from its slot; a vote below it makes nothing too far.
func TestTooManySlotsOfTwoPromises(t *testing.T) {
	b := round(1, node)
	p := asking(t, 4)
	wantOn(t, "too far", p, promise(0, b, 4, voted(4+api.MaxList, round(0, 0), noop())), nil)
	wantState(t, "it is preparing still", p, preparing(b, prepares(b, 4, 1, 2)...))
	wantOn(t, "the second", p, promise(2, b, 4, voted(5, round(0, 0), noop())), nil)
	wantState(t, "too many", p, idle(b))
	wantNone(t, "the third", p, promise(1, b, 4))

	p = asking(t, api.MaxList+4)
	b = round(1, node)
	at := api.MaxList + 4
	wantOn(t, "below", p, promise(0, b, at, voted(0, round(0, 0), entry("a"))), nil)
	wantOn(t, "the second", p, promise(2, b, at, voted(at, round(0, 0), entry("b"))), accepts(b, at, entry("b"), 0, 1, 2))
}

// A proposer has MaxList flights at most; one that is chosen makes room for one.
func TestFullOfFlights(t *testing.T) {
	b := round(1, 0)
	p := alone(t, 3)
	wantOn(t, "it leads", p, toZero(promise(0, b, 3)), nil)
	for i := range api.MaxList {
		out, slot, err := p.Propose(entry("t", i+1))
		if len(out) != 1 || slot != 3+i || err != api.OK {
			t.Fatalf("Propose: %v, %d, %d", out, slot, err)
		}
	}
	for range 2 {
		wantNoPropose(t, "full", p, noop(), api.ErrFull)
		wantNoPropose(t, "an argument goes ahead", p, api.Entry{}, api.ErrArg)
	}
	wantOn(t, "one in the middle", p, toZero(accepted(0, b, 103)), nil, voted(103, b, entry("t", 101)))
	wantPropose(t, p, entry("u"), 3+api.MaxList, accepts(b, 3+api.MaxList, entry("u"), 0))
	wantNoPropose(t, "full again", p, noop(), api.ErrFull)
	flights, again := p.Flights(), p.Again()
	if len(flights) != api.MaxList || len(again) != api.MaxList || p.Next() != 4+api.MaxList {
		t.Fatal("flights:", len(flights), len(again), p.Next())
	}
	for i, f := range flights {
		slot, e := 3+i, entry("t", i+1)
		if i >= 100 {
			slot, e = 4+i, entry("t", i+2)
		}
		if i == api.MaxList-1 {
			e = entry("u")
		}
		wantVoted(t, "a flight", []api.Voted{f}, []api.Voted{voted(slot, b, e)})
		wantMsgs(t, "again", again[i:i+1], accepts(b, slot, e, 0))
	}
	p.Stop()
	wantNoPropose(t, "none goes ahead", p, noop(), api.ErrNone)
	wantState(t, "stopped", p, idle(b))
}

// Behind the last slot nothing is proposed, though the last one is chosen.
func TestLastSlot(t *testing.T) {
	b := round(1, 0)
	for _, x := range []struct {
		slot  int
		votes []api.Voted
		free  int
	}{
		{api.MaxSeq, nil, 1},
		{api.MaxSeq - 1, nil, 2},
		{api.MaxSeq, []api.Voted{voted(api.MaxSeq, round(0, 1), entry("a"))}, 0},
		{api.MaxSeq - 1, []api.Voted{voted(api.MaxSeq-1, round(0, 1), entry("a"))}, 1},
	} {
		p := alone(t, x.slot)
		p.On(toZero(promise(0, b, x.slot, x.votes...)))
		for i := range x.free {
			slot := api.MaxSeq + 1 - x.free + i
			wantPropose(t, p, entry("l"), slot, accepts(b, slot, entry("l"), 0))
		}
		if p.Next() != api.MaxSeq+1 {
			t.Error("Next:", p.Next())
		}
		wantNoPropose(t, "beyond", p, noop(), api.ErrFull)
		before := len(p.Flights())
		if _, chosen := p.On(toZero(accepted(0, b, api.MaxSeq))); len(chosen) != 1 || chosen[0].Slot != api.MaxSeq || len(p.Flights()) != before-1 {
			t.Error("chosen:", chosen)
		}
		wantNoPropose(t, "beyond still", p, noop(), api.ErrFull)
		wantNoPropose(t, "an argument goes ahead", p, entry("T"), api.ErrArg)
	}
}

// As many votes as a message may have, all of other slots and of one slot.
func TestManyVotes(t *testing.T) {
	b := round(1, node)
	var rising, same []api.Voted
	for i := range api.MaxList {
		rising = append(rising, voted(api.MaxList-1-i, round(0, 0), noop()))
		same = append(same, voted(0, round(0, i%7), noop()))
	}
	same[3005] = voted(0, round(9, 2), entry("s", 1))
	p := asking(t, 0)
	wantOn(t, "the first", p, promise(0, b, 0, rising...), nil)
	out, _ := p.On(promise(2, b, 0, same...))
	if len(out) != 3*api.MaxList || p.Next() != api.MaxList {
		t.Fatal("sent:", len(out), p.Next())
	}
	wantMsgs(t, "the first slot", out[:3], accepts(b, 0, entry("s", 1), 0, 1, 2))
	wantMsgs(t, "the last slot", out[3*api.MaxList-3:], accepts(b, api.MaxList-1, noop(), 0, 1, 2))
}
