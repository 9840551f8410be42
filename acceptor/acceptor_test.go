package acceptor_test

import (
	"math"
	"reflect"
	"strings"
	"testing"

	"pannier/acceptor"
	"pannier/api"
	"pannier/codec"
)

const node = 2 // whose acceptor it is, unless a test says so

func newAcceptor(t *testing.T, of int) *acceptor.Acceptor {
	t.Helper()
	a, err := acceptor.New(of)
	if a == nil || err != api.OK {
		t.Fatalf("New(%d): %v, %d", of, a, err)
	}
	return a
}

func round(round, node int) api.Ballot {
	return api.Ballot{Round: round, Node: node}
}

func noop() api.Entry {
	return api.Entry{Noop: true}
}

func entry(token string, cut ...int) api.Entry {
	return api.Entry{Seal: api.Seal{Token: token, Cart: "c", Epoch: 3, Cut: cut}}
}

func voted(slot int, b api.Ballot, e api.Entry) api.Voted {
	return api.Voted{Slot: slot, Ballot: b, Entry: e}
}

func prepare(b api.Ballot, slot int) api.Msg {
	return api.Msg{Kind: api.MsgPrepare, From: 5, To: node, Ballot: b, Slot: slot, Entry: noop()}
}

func accept(b api.Ballot, slot int, e api.Entry) api.Msg {
	return api.Msg{Kind: api.MsgAccept, From: 4, To: node, Ballot: b, Slot: slot, Entry: e}
}

// answer is one of that kind to m.
func answer(m api.Msg, kind int, b api.Ballot, votes ...api.Voted) api.Msg {
	return api.Msg{Kind: kind, From: node, To: m.From, Ballot: b, Slot: m.Slot, Entry: noop(), Voted: votes}
}

func bytesOf(t *testing.T, m api.Msg) string {
	t.Helper()
	b, err := codec.Msg(m)
	if err != api.OK {
		t.Fatalf("codec.Msg(%v): %d", m, err)
	}
	return string(b)
}

func plainEntry(e api.Entry) api.Entry {
	e.Seal.Cut = append([]int(nil), e.Seal.Cut...)
	return e
}

// plainVotes is l without empty lists, since nil is the same.
func plainVotes(l []api.Voted) []api.Voted {
	var out []api.Voted
	for _, v := range l {
		v.Entry = plainEntry(v.Entry)
		out = append(out, v)
	}
	return out
}

func sameMsg(a, b api.Msg) bool {
	a.Entry, b.Entry = plainEntry(a.Entry), plainEntry(b.Entry)
	a.Voted, b.Voted = plainVotes(a.Voted), plainVotes(b.Voted)
	if len(a.Seen)+len(b.Seen)+len(a.Events)+len(b.Events) == 0 {
		a.Seen, b.Seen, a.Events, b.Events = nil, nil, nil, nil
	}
	return reflect.DeepEqual(a, b)
}

func wantState(t *testing.T, what string, a *acceptor.Acceptor, promised api.Ballot, votes ...api.Voted) {
	t.Helper()
	if got := a.Promised(); got != promised {
		t.Errorf("%s: promised %v, not %v", what, got, promised)
	}
	if got := plainVotes(a.Votes()); !reflect.DeepEqual(got, plainVotes(votes)) {
		t.Errorf("%s: votes %v, not %v", what, got, votes)
	}
}

// wantOn looks whether a message is answered so, and whether Would tells of the record ahead, and does nothing.
func wantOn(t *testing.T, a *acceptor.Acceptor, m, wanted api.Msg, isRecord bool) {
	t.Helper()
	record := ""
	if isRecord {
		record = bytesOf(t, m)
	}
	promised, votes := a.Promised(), a.Votes()
	for range 2 {
		if rec, is := a.Would(m); rec != record || !is {
			t.Errorf("Would(%v): %q, %v, not %q", m, rec, is, record)
		}
	}
	wantState(t, "behind Would", a, promised, votes...)
	got, rec, is := a.On(m)
	if !sameMsg(got, wanted) || rec != record || !is {
		t.Errorf("On(%v): %v, %q, %v, not %v, %q", m, got, rec, is, wanted, record)
	}
	if !isRecord {
		wantState(t, "behind what is no record", a, promised, votes...)
	}
}

// wantNone looks whether a message is passed over.
func wantNone(t *testing.T, what string, a *acceptor.Acceptor, m api.Msg) {
	t.Helper()
	promised, votes := a.Promised(), a.Votes()
	if rec, is := a.Would(m); rec != "" || is {
		t.Errorf("%s: Would: %q, %v", what, rec, is)
	}
	if got, rec, is := a.On(m); !sameMsg(got, api.Msg{}) || rec != "" || is {
		t.Errorf("%s: On: %v, %q, %v", what, got, rec, is)
	}
	wantState(t, what, a, promised, votes...)
}

func wantReplay(t *testing.T, what string, a *acceptor.Acceptor, rec string, wanted api.Errno) {
	t.Helper()
	promised, votes := a.Promised(), a.Votes()
	if err := a.Replay(rec); err != wanted {
		t.Errorf("%s: Replay: %d, not %d", what, err, wanted)
	}
	if wanted != api.OK {
		wantState(t, what, a, promised, votes...)
	}
}

// busy is an acceptor with some votes: promised (3, 1).
func busy(t *testing.T) *acceptor.Acceptor {
	t.Helper()
	a := newAcceptor(t, node)
	for _, m := range []api.Msg{accept(round(1, 0), 7, entry("a", 1, 2)), accept(round(1, 0), 0, noop()), accept(round(2, 6), 3, entry("b")), prepare(round(3, 1), 0)} {
		if _, _, is := a.On(m); !is {
			t.Fatal("On:", m)
		}
	}
	return a
}

func busyVotes() []api.Voted {
	return []api.Voted{voted(0, round(1, 0), noop()), voted(3, round(2, 6), entry("b")), voted(7, round(1, 0), entry("a", 1, 2))}
}

func TestNew(t *testing.T) {
	for _, of := range []int{-1, 7, 8, math.MinInt, math.MaxInt} {
		if a, err := acceptor.New(of); a != nil || err != api.ErrArg {
			t.Errorf("New(%d): %v, %d", of, a, err)
		}
	}
	for of := range api.MaxNodes {
		a := newAcceptor(t, of)
		wantState(t, "a new one", a, api.Ballot{})
		for to := range api.MaxNodes {
			m := prepare(round(1, 1), 4)
			m.To = to
			if got, _, is := a.On(m); is != (to == of) || is && got.From != of {
				t.Errorf("at the node %d, for %d: %v, %v", of, to, got, is)
			}
		}
	}
}

func TestExample(t *testing.T) {
	a := newAcceptor(t, node)
	first, second, third := prepare(round(2, 0), 0), accept(round(1, 1), 0, entry("x")), accept(round(2, 0), 3, entry("t", 1))
	wantOn(t, a, first, answer(first, api.MsgPromise, round(2, 0)), true)
	wantOn(t, a, second, answer(second, api.MsgNack, round(2, 0)), false)
	wantOn(t, a, third, answer(third, api.MsgAccepted, round(2, 0)), true)
	wantState(t, "behind all", a, round(2, 0), voted(3, round(2, 0), entry("t", 1)))
}

func TestPrepare(t *testing.T) {
	all := busyVotes()
	for _, x := range []struct {
		b        api.Ballot
		slot     int
		kind     int
		promised api.Ballot
		votes    []api.Voted
	}{
		{round(3, 1), 0, api.MsgPromise, round(3, 1), all},
		{round(3, 2), 0, api.MsgPromise, round(3, 2), all},
		{round(4, 0), 1, api.MsgPromise, round(4, 0), all[1:]},
		{round(4, 0), 3, api.MsgPromise, round(4, 0), all[1:]},
		{round(4, 0), 4, api.MsgPromise, round(4, 0), all[2:]},
		{round(4, 0), 7, api.MsgPromise, round(4, 0), all[2:]},
		{round(4, 0), 8, api.MsgPromise, round(4, 0), nil},
		{round(api.MaxSeq, 6), api.MaxSeq, api.MsgPromise, round(api.MaxSeq, 6), nil},
		{round(3, 0), 0, api.MsgNack, round(3, 1), nil},
		{round(2, 6), 3, api.MsgNack, round(3, 1), nil},
		{round(0, 0), 9, api.MsgNack, round(3, 1), nil},
	} {
		a := busy(t)
		m := prepare(x.b, x.slot)
		wantOn(t, a, m, answer(m, x.kind, x.promised, x.votes...), x.promised != round(3, 1))
		wantState(t, "behind it", a, x.promised, all...)
		// What was promised is promised again, and is no record.
		again := prepare(x.promised, x.slot)
		wantOn(t, a, again, answer(again, api.MsgPromise, x.promised, a.Votes()[len(all)-countFrom(all, x.slot):]...), false)
	}
}

func countFrom(l []api.Voted, slot int) int {
	count := 0
	for _, v := range l {
		if v.Slot >= slot {
			count++
		}
	}
	return count
}

func TestAccept(t *testing.T) {
	all := busyVotes()
	a := busy(t)
	steps := []struct {
		what     string
		m        api.Msg
		kind     int
		record   bool
		promised api.Ballot
		votes    []api.Voted
	}{
		{"a lesser node", accept(round(3, 0), 9, noop()), api.MsgNack, false, round(3, 1), all},
		{"a lesser round", accept(round(2, 6), 3, entry("b")), api.MsgNack, false, round(3, 1), all},
		{"the vote that there is, by now too old", accept(round(1, 0), 0, noop()), api.MsgNack, false, round(3, 1), all},
		{"the ballot that was promised", accept(round(3, 1), 3, entry("b")), api.MsgAccepted, true, round(3, 1), []api.Voted{all[0], voted(3, round(3, 1), entry("b")), all[2]}},
		{"the same again", accept(round(3, 1), 3, entry("b")), api.MsgAccepted, false, round(3, 1), []api.Voted{all[0], voted(3, round(3, 1), entry("b")), all[2]}},
		{"another entry", accept(round(3, 1), 3, entry("c")), api.MsgAccepted, true, round(3, 1), []api.Voted{all[0], voted(3, round(3, 1), entry("c")), all[2]}},
		{"another cut", accept(round(3, 1), 3, entry("c", 0, 1)), api.MsgAccepted, true, round(3, 1), []api.Voted{all[0], voted(3, round(3, 1), entry("c", 0, 1)), all[2]}},
		{"a greater ballot", accept(round(3, 2), 3, entry("c", 0, 1)), api.MsgAccepted, true, round(3, 2), []api.Voted{all[0], voted(3, round(3, 2), entry("c", 0, 1)), all[2]}},
		{"what was promised before", accept(round(3, 1), 3, entry("c", 0, 1)), api.MsgNack, false, round(3, 2), []api.Voted{all[0], voted(3, round(3, 2), entry("c", 0, 1)), all[2]}},
		{"another slot", accept(round(3, 2), 5, noop()), api.MsgAccepted, true, round(3, 2), []api.Voted{all[0], voted(3, round(3, 2), entry("c", 0, 1)), voted(5, round(3, 2), noop()), all[2]}},
		{"a Noop again", accept(round(3, 2), 5, api.Entry{Noop: true, Seal: api.Seal{Cut: []int{}}}), api.MsgAccepted, false, round(3, 2), []api.Voted{all[0], voted(3, round(3, 2), entry("c", 0, 1)), voted(5, round(3, 2), noop()), all[2]}},
		{"the last slot and round", accept(round(api.MaxSeq, 6), api.MaxSeq, entry("z")), api.MsgAccepted, true, round(api.MaxSeq, 6), []api.Voted{all[0], voted(3, round(3, 2), entry("c", 0, 1)), voted(5, round(3, 2), noop()), all[2], voted(api.MaxSeq, round(api.MaxSeq, 6), entry("z"))}},
	}
	for _, x := range steps {
		wantOn(t, a, x.m, answer(x.m, x.kind, x.promised), x.record)
		wantState(t, x.what, a, x.promised, x.votes...)
	}
}

// An entry that differs in one part is another one.
func TestAcceptOfAnotherPart(t *testing.T) {
	e := api.Entry{Seal: api.Seal{Token: "t", Cart: "c", Epoch: 1, Cut: []int{1, 2}}}
	others := []api.Entry{
		noop(),
		{Seal: api.Seal{Token: "u", Cart: "c", Epoch: 1, Cut: []int{1, 2}}},
		{Seal: api.Seal{Token: "t", Cart: "d", Epoch: 1, Cut: []int{1, 2}}},
		{Seal: api.Seal{Token: "t", Cart: "c", Epoch: 2, Cut: []int{1, 2}}},
		{Seal: api.Seal{Token: "t", Cart: "c", Epoch: 1, Cut: []int{2, 2}}},
		{Seal: api.Seal{Token: "t", Cart: "c", Epoch: 1, Cut: []int{1}}},
		{Seal: api.Seal{Token: "t", Cart: "c", Epoch: 1}},
	}
	for _, other := range others {
		for _, pair := range [][2]api.Entry{{e, other}, {other, e}} {
			a := newAcceptor(t, node)
			for i, m := range []api.Msg{accept(round(1, 1), 4, pair[0]), accept(round(1, 1), 4, pair[0]), accept(round(1, 1), 4, pair[1])} {
				wantOn(t, a, m, answer(m, api.MsgAccepted, round(1, 1)), i != 1)
			}
			wantState(t, "the last one counts", a, round(1, 1), voted(4, round(1, 1), pair[1]))
		}
	}
}

// The ballot that is promised at first may be used: to promise it changes nothing, to vote in it does.
func TestFirstBallot(t *testing.T) {
	a := newAcceptor(t, node)
	first, second := prepare(api.Ballot{}, 0), accept(api.Ballot{}, 0, noop())
	wantOn(t, a, first, answer(first, api.MsgPromise, api.Ballot{}), false)
	wantOn(t, a, second, answer(second, api.MsgAccepted, api.Ballot{}), true)
	wantOn(t, a, second, answer(second, api.MsgAccepted, api.Ballot{}), false)
	wantOn(t, a, first, answer(first, api.MsgPromise, api.Ballot{}, voted(0, api.Ballot{}, noop())), false)
}

func TestWhoIsAnswered(t *testing.T) {
	for from := range api.MaxNodes {
		for _, m := range []api.Msg{prepare(round(3, 0), 8), prepare(round(3, 1), 8), accept(round(3, 1), 8, noop())} {
			m.From = from
			if got, _, is := busy(t).On(m); !is || got.To != from || got.From != node || got.Slot != 8 {
				t.Errorf("of %d: %v, %v", from, got, is)
			}
		}
	}
}

// What a kind does not use may be there: it is in the record, and in no answer.
func TestWhatIsNotUsed(t *testing.T) {
	more := func(m api.Msg) api.Msg {
		m.Voted = []api.Voted{voted(8, round(1, 1), entry("v", 1))}
		m.Seen, m.Time = []int{0, 4}, 77
		m.Events = []api.Event{{Dot: api.Dot{Origin: 1, Seq: 2}, Deps: []int{1}, Cart: "c", Sku: "tea", Qty: 1}}
		return m
	}
	a := newAcceptor(t, node)
	first, second := more(prepare(round(1, 0), 0)), more(accept(round(1, 0), 8, entry("t")))
	first.Entry = entry("p")
	wantOn(t, a, first, answer(first, api.MsgPromise, round(1, 0)), true)
	wantOn(t, a, second, answer(second, api.MsgAccepted, round(1, 0)), true)
	wantState(t, "behind both", a, round(1, 0), voted(8, round(1, 0), entry("t")))
	b := newAcceptor(t, node)
	wantReplay(t, "the first", b, bytesOf(t, first), api.OK)
	wantReplay(t, "the second", b, bytesOf(t, second), api.OK)
	wantState(t, "replayed", b, round(1, 0), voted(8, round(1, 0), entry("t")))
}

// wrong are messages that may not be, but for which they would be taken.
func wrong() map[string]func(m *api.Msg) {
	long := make([]api.Voted, api.MaxList)
	for i := range long {
		long[i] = voted(i, round(1, 1), entry(strings.Repeat("t", api.MaxName)))
	}
	return map[string]func(m *api.Msg){
		"From below 0":            func(m *api.Msg) { m.From = -1 },
		"From above all":          func(m *api.Msg) { m.From = api.MaxNodes },
		"Round below 0":           func(m *api.Msg) { m.Ballot.Round = -1 },
		"Round above all":         func(m *api.Msg) { m.Ballot.Round = api.MaxSeq + 1 },
		"a great Round":           func(m *api.Msg) { m.Ballot.Round = math.MaxInt },
		"Node below 0":            func(m *api.Msg) { m.Ballot.Node = -1 },
		"Node above all":          func(m *api.Msg) { m.Ballot.Node = api.MaxNodes },
		"Slot below 0":            func(m *api.Msg) { m.Slot = -1 },
		"Slot above all":          func(m *api.Msg) { m.Slot = api.MaxSeq + 1 },
		"no entry":                func(m *api.Msg) { m.Entry = api.Entry{} },
		"a Noop with a seal":      func(m *api.Msg) { m.Entry = entry("t"); m.Entry.Noop = true },
		"a Noop with a cut":       func(m *api.Msg) { m.Entry = api.Entry{Noop: true, Seal: api.Seal{Cut: []int{1}}} },
		"a wrong token":           func(m *api.Msg) { m.Entry = entry("T") },
		"a wrong cart":            func(m *api.Msg) { m.Entry = entry("t"); m.Entry.Seal.Cart = "" },
		"an epoch below 0":        func(m *api.Msg) { m.Entry = entry("t"); m.Entry.Seal.Epoch = -1 },
		"a cut that ends with 0":  func(m *api.Msg) { m.Entry = entry("t", 1, 0) },
		"a cut of too many":       func(m *api.Msg) { m.Entry = entry("t", 1, 1, 1, 1, 1, 1, 1, 1) },
		"a wrong vote":            func(m *api.Msg) { m.Voted = []api.Voted{voted(-1, round(1, 1), noop())} },
		"too many votes":          func(m *api.Msg) { m.Voted = make([]api.Voted, api.MaxList+1) },
		"too many bytes":          func(m *api.Msg) { m.Voted = long },
		"a wrong Seen":            func(m *api.Msg) { m.Seen = []int{0} },
		"a wrong event":           func(m *api.Msg) { m.Events = []api.Event{{}} },
		"Time below 0":            func(m *api.Msg) { m.Time = -1 },
		"Time above all":          func(m *api.Msg) { m.Time = api.MaxTime + 1 },
		"To below 0":              func(m *api.Msg) { m.To = -1 },
		"To above all":            func(m *api.Msg) { m.To = api.MaxNodes },
		"for another node":        func(m *api.Msg) { m.To = node + 1 },
		"for the node ahead":      func(m *api.Msg) { m.To = node - 1 },
		"Kind below 0":            func(m *api.Msg) { m.Kind = -1 },
		"Kind 256":                func(m *api.Msg) { m.Kind = 256 },
		"Kind 257, a byte's 1":    func(m *api.Msg) { m.Kind = 257 },
		"the least Kind":          func(m *api.Msg) { m.Kind = math.MinInt },
		"the greatest Kind":       func(m *api.Msg) { m.Kind = math.MaxInt },
		"To that wraps round":     func(m *api.Msg) { m.To = math.MinInt + node },
		"a Slot that wraps round": func(m *api.Msg) { m.Slot = math.MinInt },
	}
}

func TestWrongMessages(t *testing.T) {
	for what, spoil := range wrong() {
		for _, m := range []api.Msg{prepare(round(5, 5), 1), accept(round(5, 5), 1, entry("t", 1)), prepare(round(0, 0), 1), accept(round(0, 0), 1, noop())} {
			spoil(&m)
			wantNone(t, what, busy(t), m)
			wantNone(t, what, newAcceptor(t, node), m)
		}
	}
	wantNone(t, "an empty message", busy(t), api.Msg{})
}

func TestOtherKinds(t *testing.T) {
	for kind := range 256 {
		if kind == api.MsgPrepare || kind == api.MsgAccept {
			continue
		}
		for _, m := range []api.Msg{prepare(round(5, 5), 1), accept(round(5, 5), 1, entry("t", 1)), accept(round(0, 0), 1, noop())} {
			m.Kind = kind
			wantNone(t, "another kind", busy(t), m)
			wantReplay(t, "another kind", busy(t), bytesOf(t, m), api.ErrCode)
		}
	}
}

func TestReplay(t *testing.T) {
	all := busyVotes()
	a := busy(t)
	for _, x := range []struct {
		what     string
		m        api.Msg
		wanted   api.Errno
		promised api.Ballot
		votes    []api.Voted
	}{
		{"a lesser promise", prepare(round(3, 0), 0), api.ErrCode, round(3, 1), all},
		{"a lesser vote", accept(round(2, 6), 3, entry("b")), api.ErrCode, round(3, 1), all},
		{"the promise that there is", prepare(round(3, 1), 0), api.OK, round(3, 1), all},
		{"a greater promise", prepare(round(3, 3), 9), api.OK, round(3, 3), all},
		{"what was promised before", prepare(round(3, 1), 0), api.ErrCode, round(3, 3), all},
		{"a vote", accept(round(4, 0), 3, entry("c")), api.OK, round(4, 0), []api.Voted{all[0], voted(3, round(4, 0), entry("c")), all[2]}},
		{"the same vote", accept(round(4, 0), 3, entry("c")), api.OK, round(4, 0), []api.Voted{all[0], voted(3, round(4, 0), entry("c")), all[2]}},
	} {
		wantReplay(t, x.what, a, bytesOf(t, x.m), x.wanted)
		wantState(t, x.what, a, x.promised, x.votes...)
	}
	elsewhere := prepare(round(9, 0), 0)
	elsewhere.To = node + 1
	wantReplay(t, "for another node", a, bytesOf(t, elsewhere), api.ErrCode)
}

func TestReplayOfNoMessage(t *testing.T) {
	a := busy(t)
	rec := bytesOf(t, accept(round(5, 5), 1, entry("t", 1)))
	for end := range len(rec) {
		wantReplay(t, "a beginning", a, rec[:end], api.ErrCode)
	}
	for _, x := range []string{"", "\x00", "x", rec + "\x00", rec + rec, "\x00" + rec, strings.Repeat("\xff", 20), strings.Repeat("\x01", api.MaxRecord+1)} {
		wantReplay(t, "no message", a, x, api.ErrCode)
	}
	for at := range len(rec) {
		for _, c := range []byte{0, 1, 2, 3, 7, 0x7f, 0x80, 0xff} {
			wantJustAsOn(t, rec[:at]+string([]byte{c})+rec[at+1:])
		}
	}
}

// wantJustAsOn looks whether Replay takes just what On takes without a Nack, and to the same end.
func wantJustAsOn(t *testing.T, rec string) {
	t.Helper()
	wanted, taken := api.ErrCode, busy(t)
	if m, err := codec.ReadMsg([]byte(rec)); err == api.OK {
		if got, _, is := taken.On(m); is && got.Kind != api.MsgNack {
			wanted = api.OK
		}
	}
	a := busy(t)
	wantReplay(t, "as On", a, rec, wanted)
	wantState(t, "as On", a, taken.Promised(), taken.Votes()...)
}

func FuzzReplay(f *testing.F) {
	for _, m := range []api.Msg{prepare(round(3, 1), 0), prepare(round(4, 0), 300), accept(round(5, 5), 1, entry("t", 1)), accept(round(1, 0), 1, noop())} {
		b, _ := codec.Msg(m)
		f.Add(string(b))
	}
	f.Fuzz(wantJustAsOn)
}

func TestDrop(t *testing.T) {
	all := busyVotes()
	for _, x := range []struct{ below, gone int }{
		{math.MinInt, 0}, {-1, 0}, {0, 0}, {1, 1}, {3, 1}, {4, 2}, {7, 2}, {8, 3}, {api.MaxSeq, 3}, {math.MaxInt, 3},
	} {
		a := busy(t)
		a.Drop(x.below)
		wantState(t, "behind Drop", a, round(3, 1), all[x.gone:]...)
		m := prepare(round(3, 1), 0)
		wantOn(t, a, m, answer(m, api.MsgPromise, round(3, 1), all[x.gone:]...), false)
		old := accept(round(3, 0), 0, noop())
		wantOn(t, a, old, answer(old, api.MsgNack, round(3, 1)), false)
	}
	// A slot that was dropped is one in which it did not vote.
	a := busy(t)
	a.Drop(8)
	m := accept(round(3, 1), 3, entry("b"))
	wantOn(t, a, m, answer(m, api.MsgAccepted, round(3, 1)), true)
	a.Drop(4)
	wantOn(t, a, m, answer(m, api.MsgAccepted, round(3, 1)), true)
	wantState(t, "voted again", a, round(3, 1), voted(3, round(3, 1), entry("b")))
}

func TestFork(t *testing.T) {
	all := busyVotes()
	a := busy(t)
	b := a.Fork()
	c := b.Fork()
	a.Drop(4)
	b.On(accept(round(3, 1), 3, entry("x", 5)))
	c.On(prepare(round(9, 0), 0))
	wantState(t, "the first", a, round(3, 1), all[2])
	wantState(t, "its fork", b, round(3, 1), all[0], voted(3, round(3, 1), entry("x", 5)), all[2])
	wantState(t, "the fork's fork", c, round(9, 0), all...)
	wantNone(t, "a fork is of the same node", b, api.Msg{Kind: api.MsgPrepare, To: node + 1, Ballot: round(9, 0), Entry: noop()})
}

// An acceptor that no call made is as a nil one.
func TestNilAcceptor(t *testing.T) {
	for _, a := range []*acceptor.Acceptor{nil, {}} {
		for _, m := range []api.Msg{{}, prepare(round(1, 0), 0), accept(round(1, 0), 0, noop())} {
			m.To = 0
			wantNone(t, "nil", a, m)
		}
		for _, rec := range []string{"", "x", bytesOf(t, prepare(round(1, 0), 0))} {
			wantReplay(t, "nil", a, rec, api.ErrClosed)
		}
		a.Drop(1)
		wantState(t, "nil", a, api.Ballot{})
		if a.Fork() != nil {
			t.Error("Fork")
		}
	}
}

// Nothing that is handed in is kept or changed, and what is answered is new each time.
func TestNothingIsShared(t *testing.T) {
	a := newAcceptor(t, node)
	room := []int{1, 2, 3}
	m := accept(round(1, 0), 0, entry("a", room[:2]...))
	m.Entry.Seal.Cut = room[:2]
	a.On(m)
	room[0], room[2] = 9, 9
	wanted := voted(0, round(1, 0), entry("a", 1, 2))
	wantState(t, "the message was changed", a, round(1, 0), wanted)
	fork := a.Fork()
	promise, _, _ := a.On(prepare(round(1, 0), 0))
	other, _, _ := a.On(prepare(round(1, 0), 0))
	for _, l := range [][]api.Voted{promise.Voted, a.Votes(), fork.Votes()} {
		l[0].Entry.Seal.Cut[0] = 8
		_ = append(l[0].Entry.Seal.Cut, 8)
		l[0].Slot = 8
		_ = append(l, voted(8, round(8, 0), noop()))
	}
	wantState(t, "what was told was changed", a, round(1, 0), wanted)
	wantState(t, "and of the fork", fork, round(1, 0), wanted)
	if !reflect.DeepEqual(plainVotes(other.Voted), []api.Voted{wanted}) {
		t.Error("the other promise:", other)
	}
	if room[0] != 9 || room[1] != 2 || room[2] != 9 {
		t.Error("the list that was handed in:", room)
	}
	again := accept(round(1, 0), 0, entry("a", 1, 2, 3))
	again.Entry.Seal.Cut = again.Entry.Seal.Cut[:2]
	a.On(again)
	if again.Entry.Seal.Cut[:3][2] != 3 {
		t.Error("the room behind the list was changed")
	}
}
