package proposer_test

import (
	"fmt"
	"reflect"
	"slices"
	"strings"
	"testing"

	"pannier/acceptor"
	"pannier/api"
	"pannier/ballot"
	"pannier/codec"
	"pannier/proposer"
)

// world is a group all of whose ways are gone. Messages stay, so that each may come at any time, and twice,
// or never. The parts are never changed: a step makes others.
type world struct {
	acceptors []*acceptor.Acceptor
	proposers []*proposer.Proposer
	parts     []string // all that the acceptors' and the proposers' future hangs on
	sent      []string // rising, each once
}

func newWorld(t *testing.T, nodes int, starts ...int) *world {
	t.Helper()
	w := &world{parts: make([]string, 2*nodes)}
	for of := range nodes {
		a, _ := acceptor.New(of)
		w.acceptors, w.proposers = append(w.acceptors, a), append(w.proposers, newProposer(t, of, nodes))
	}
	for _, of := range starts {
		out, err := w.proposers[of].Start(api.Ballot{}, 0)
		if err != api.OK {
			t.Fatal(err)
		}
		w.send(out)
	}
	for of := range nodes {
		w.look(of)
	}
	return w
}

func textOf(l ...api.Msg) string {
	var b []byte
	for _, m := range l {
		bytes, _ := codec.Msg(m)
		b = append(b, bytes...)
	}
	return string(b)
}

func (w *world) send(l []api.Msg) {
	for _, m := range l {
		text := textOf(m)
		if at, has := slices.BinarySearch(w.sent, text); !has {
			w.sent = slices.Insert(slices.Clone(w.sent), at, text)
		}
	}
}

func (w *world) look(of int) {
	a, p := w.acceptors[of], w.proposers[of]
	w.parts = slices.Clone(w.parts)
	w.parts[2*of] = textOf(api.Msg{Ballot: a.Promised(), Voted: a.Votes(), Entry: noop()})
	told := api.Msg{Kind: p.Phase(), Slot: p.Next(), Ballot: p.Ballot(), Voted: p.Flights(), Entry: noop()}
	w.parts[2*of+1] = textOf(slices.Concat([]api.Msg{told}, p.Again(), wouldPropose(p, of))...)
}

// wouldPropose is what one that is preparing would propose with one more promise: of the votes that it
// keeps it tells in no other way.
func wouldPropose(p *proposer.Proposer, of int) []api.Msg {
	if p.Phase() != api.PhasePreparing {
		return nil
	}
	ask := p.Again()[0]
	out, _ := p.Fork().On(api.Msg{Kind: api.MsgPromise, From: ask.To, To: of, Ballot: ask.Ballot, Slot: ask.Slot, Entry: noop()})
	return out
}

func (w *world) key() string {
	return strings.Join(w.parts, "|") + "|" + strings.Join(w.sent, "")
}

// step is the world behind a message that comes; one that begins to lead proposes an entry of its own, if it
// is free to.
func (w *world) step(m api.Msg) *world {
	next := *w
	if a := w.acceptors[m.To].Fork(); m.Kind == api.MsgPrepare || m.Kind == api.MsgAccept {
		answer, _, _ := a.On(m)
		next.acceptors = slices.Clone(w.acceptors)
		next.acceptors[m.To] = a
		// A refusal can but make a proposer idle.
		if answer.Kind != api.MsgNack {
			next.send([]api.Msg{answer})
		}
	} else {
		p := w.proposers[m.To].Fork()
		out, _ := p.On(m)
		next.proposers = slices.Clone(w.proposers)
		next.proposers[m.To] = p
		next.send(out)
		if p.Phase() == api.PhaseLeading && p.Next() == 0 {
			out, _, _ = p.Propose(entry(fmt.Sprint("of-", m.To)))
			next.send(out)
		}
	}
	next.look(m.To)
	return &next
}

// chosen answers of the slot 0 the entries that a majority voted for in one ballot, ever.
func (w *world) chosen() []api.Entry {
	proposed, voters := map[api.Ballot]api.Entry{}, map[api.Ballot]int{}
	for _, text := range w.sent {
		m, _ := codec.ReadMsg([]byte(text))
		switch m.Kind {
		case api.MsgAccept:
			proposed[m.Ballot] = m.Entry
		case api.MsgAccepted:
			voters[m.Ballot]++
		}
	}
	var chosen []api.Entry
	for b, count := range voters {
		if count >= ballot.Quorum(len(w.acceptors)) {
			chosen = append(chosen, proposed[b])
		}
	}
	return chosen
}

// P17.5, of all ways in which things may go, for one slot and few nodes that each start once.
func TestAllWays(t *testing.T) {
	for _, x := range []struct {
		nodes  int
		starts []int
	}{
		{1, []int{0}}, {2, []int{0, 1}}, {3, []int{0, 2}},
	} {
		first := newWorld(t, x.nodes, x.starts...)
		seen := map[string]int{first.key(): 0}
		chosen, both := map[string]int{}, 0
		for todo := []*world{first}; len(todo) > 0; {
			w := todo[len(todo)-1]
			todo = todo[:len(todo)-1]
			for _, text := range w.sent {
				m, _ := codec.ReadMsg([]byte(text))
				if m.Kind == api.MsgAccepted {
					continue
				}
				next := w.step(m)
				key := next.key()
				if _, has := seen[key]; has {
					continue
				}
				seen[key] = len(seen)
				todo = append(todo, next)
				entries := next.chosen()
				for _, e := range entries {
					chosen[e.Seal.Token]++
					if !reflect.DeepEqual(plainEntry(e), plainEntry(entries[0])) {
						t.Fatalf("of %d nodes: two entries are chosen: %v, by %v", x.nodes, entries, next.parts)
					}
				}
				if len(entries) == 2 {
					both++
				}
			}
		}
		t.Log(x.nodes, "nodes:", len(seen), "states; chosen:", chosen, both)
		if len(chosen) != len(x.starts) || len(x.starts) == 2 && both == 0 {
			t.Errorf("too little was seen of %d nodes: %d states, %v, %d", x.nodes, len(seen), chosen, both)
		}
	}
}
