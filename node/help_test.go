package node_test

import (
	"fmt"
	"slices"
	"strings"
	"testing"

	"pannier/api"
	"pannier/codec"
	"pannier/disk"
	"pannier/node"
	"pannier/store"
)

// config is that of so many nodes, with much room and leases of 100.
func config(nodes int) api.Config {
	return api.Config{Nodes: nodes, Lease: 100, Segment: 1 << 12, Disk: 1 << 24}
}

func newDisk(t *testing.T, size int) *disk.Disk {
	t.Helper()
	d, err := disk.New(size)
	if err != api.OK {
		t.Fatal(err)
	}
	return d
}

// start answers a node on that disk.
func start(t *testing.T, c api.Config, id int, d *disk.Disk, now int) *node.Node {
	t.Helper()
	n, err := node.New(c, id, d, now)
	if n == nil || err != api.OK {
		t.Fatalf("New(%v, %d, %d): %v, %d", c, id, now, n, err)
	}
	return n
}

// fresh answers a node on a disk of its own.
func fresh(t *testing.T, nodes, id int) (*node.Node, *disk.Disk) {
	t.Helper()
	d := newDisk(t, 1<<24)
	return start(t, config(nodes), id, d, 0), d
}

// all answers what the disk would have if all its bytes lasted.
func all(d *disk.Disk) *disk.Disk {
	f := d.Fork()
	var keep []api.Torn
	for _, file := range f.Files() {
		keep = append(keep, api.Torn{Name: file.Name, Bytes: len(file.Bytes) - file.Synced})
	}
	f.Crash(keep)
	return f
}

// records are what a node's store has on that disk, those of the snapshot ahead.
func records(t *testing.T, d *disk.Disk, segment int) []string {
	t.Helper()
	s, snapshot, behind, err := store.Open(all(d), "n", segment)
	if err != api.OK {
		t.Fatal("records:", err)
	}
	if number, _ := s.Snap(); number == 0 {
		return behind
	}
	ahead, size, err := codec.ReadList([]byte(snapshot), len(snapshot), func(b []byte) (string, int, api.Errno) { return codec.ReadText(b, len(b)) })
	if err != api.OK || size != len(snapshot) {
		t.Fatalf("the snapshot is no list: %q", snapshot)
	}
	return append(ahead, behind...)
}

func update(id int, cart, sku string, qty int) api.Call {
	return api.Call{Id: id, Kind: api.CallUpdate, Cart: cart, Sku: sku, Qty: qty}
}

func read(id int, cart string) api.Call {
	return api.Call{Id: id, Kind: api.CallRead, Cart: cart}
}

func checkout(id int, cart, token string) api.Call {
	return api.Call{Id: id, Kind: api.CallCheckout, Cart: cart, Token: token}
}

func status(id int, token string) api.Call {
	return api.Call{Id: id, Kind: api.CallStatus, Cart: "c", Token: token}
}

// call has n take a call.
func call(t *testing.T, n *node.Node, c api.Call) {
	t.Helper()
	if err := n.Call(c); err != api.OK {
		t.Fatalf("Call(%v): %d", c, err)
	}
}

// flush answers what leaves.
func flush(t *testing.T, n *node.Node) []api.Out {
	t.Helper()
	out, err := n.Flush()
	if err != api.OK {
		t.Fatal("Flush:", err)
	}
	return out
}

// answers are those among out, each of the others is looked at by messages.
func answers(out []api.Out) []api.Answer {
	var l []api.Answer
	for _, o := range out {
		if o.IsAnswer {
			l = append(l, o.Answer)
		}
	}
	return l
}

func messages(out []api.Out) []api.Msg {
	var l []api.Msg
	for _, o := range out {
		if !o.IsAnswer {
			l = append(l, o.Msg)
		}
	}
	return l
}

// same asks by texts, in which nil and the empty list are the same.
func same(a, b any) bool {
	return fmt.Sprintf("%+v", a) == fmt.Sprintf("%+v", b)
}

func wantSame(t *testing.T, what string, got, wanted any) {
	t.Helper()
	if !same(got, wanted) {
		t.Errorf("%s:\n   %+v\nnot\n   %+v", what, got, wanted)
	}
}

// wantAnswers looks whether just these answers leave with the next Flush.
func wantAnswers(t *testing.T, what string, n *node.Node, wanted ...api.Answer) {
	t.Helper()
	wantSame(t, what, answers(flush(t, n)), wanted)
}

// wantMessages looks whether just these messages, and no answers, leave with the next Flush.
func wantMessages(t *testing.T, what string, n *node.Node, wanted ...api.Msg) {
	t.Helper()
	out := flush(t, n)
	wantSame(t, what+": answers", answers(out), []api.Answer{})
	wantSame(t, what, messages(out), wanted)
}

// between makes a message without an entry.
func between(kind, from, to int) api.Msg {
	return api.Msg{Kind: kind, From: from, To: to, Entry: noop()}
}

// inBallot makes a message of that ballot, without an entry.
func inBallot(kind, from, to int, b api.Ballot, slot int) api.Msg {
	m := between(kind, from, to)
	m.Ballot, m.Slot = b, slot
	return m
}

// accept makes a message that asks for a vote.
func accept(from, to int, b api.Ballot, slot int, e api.Entry) api.Msg {
	m := inBallot(api.MsgAccept, from, to, b, slot)
	m.Entry = e
	return m
}

func chosen(from, to, slot int, e api.Entry) api.Msg {
	return api.Msg{Kind: api.MsgChosen, From: from, To: to, Slot: slot, Entry: e}
}

func digest(from, to, slot int, seen ...int) api.Msg {
	m := between(api.MsgDigest, from, to)
	m.Slot, m.Seen = slot, seen
	return m
}

func delta(from, to int, l ...api.Event) api.Msg {
	m := between(api.MsgDelta, from, to)
	m.Events = l
	return m
}

func leaseOf(kind, from, to int, b api.Ballot, time int) api.Msg {
	m := inBallot(kind, from, to, b, 0)
	m.Time = time
	return m
}

func noop() api.Entry {
	return api.Entry{Noop: true}
}

func sealed(token, cart string, epoch int, v ...int) api.Entry {
	return api.Entry{Seal: api.Seal{Token: token, Cart: cart, Epoch: epoch, Cut: v}}
}

func order(id int, token, cart string, epoch int, v ...int) api.Order {
	return api.Order{Id: id, Token: token, Cart: cart, Epoch: epoch, Cut: v}
}

// adds is an event that adds tea to the cart c.
func adds(origin, seq, qty int, deps ...int) api.Event {
	return api.Event{Dot: api.Dot{Origin: origin, Seq: seq}, Deps: deps, Cart: "c", Sku: "tea", Qty: qty}
}

func tea(qty int) []api.Line {
	return []api.Line{{Sku: "tea", Qty: qty}}
}

func ballot(round, node int) api.Ballot {
	return api.Ballot{Round: round, Node: node}
}

// leads makes n lead, a node of so many: half of the others promise, without votes.
func leads(t *testing.T, n *node.Node, nodes, id int) api.Ballot {
	t.Helper()
	n.Elect()
	flush(t, n)
	b := n.Promised()
	promise(n, nodes, id, len(n.Entries()), b)
	if n.Phase() != api.PhaseLeading {
		t.Fatal("it does not lead, but is at", n.Phase())
	}
	return b
}

// promise has a half of the others promise, with those votes.
func promise(n *node.Node, nodes, id, slot int, b api.Ballot, votes ...api.Voted) {
	for i := range nodes / 2 {
		m := inBallot(api.MsgPromise, (id+1+i)%nodes, id, b, slot)
		m.Voted = votes
		n.On(m)
	}
}

// accepted has a half of the others vote.
func accepted(n *node.Node, nodes, id int, b api.Ballot, slot int) {
	for i := range nodes / 2 {
		n.On(inBallot(api.MsgAccepted, (id+1+i)%nodes, id, b, slot))
	}
}

// state is all that a node tells of what must last.
func state(n *node.Node) string {
	var b strings.Builder
	carts := []string{"c", "d", "e"}
	fmt.Fprintf(&b, "applied %v\nevents %+v\nentries %+v\npromised %v\nvotes %+v\n", n.Applied(), n.Events(), n.Entries(), n.Promised(), n.Votes())
	for _, cart := range carts {
		fmt.Fprintf(&b, "%s %v\n", cart, n.Read(cart))
	}
	return b.String()
}

// wantState looks whether two nodes tell the same of what must last.
func wantState(t *testing.T, what string, got, wanted *node.Node) {
	t.Helper()
	if a, b := state(got), state(wanted); a != b {
		t.Errorf("%s:\n%s\nnot\n%s", what, a, b)
	}
}

// wantLasting looks whether a node on all of d's bytes has the state that n has.
func wantLasting(t *testing.T, what string, c api.Config, id int, n *node.Node, d *disk.Disk) {
	t.Helper()
	wantState(t, what, start(t, c, id, all(d), 0), n)
}

// equalEntries asks whether two entries are the same.
func equalEntries(a, b api.Entry) bool {
	same := slices.Equal(a.Seal.Cut, b.Seal.Cut)
	a.Seal.Cut, b.Seal.Cut = nil, nil
	return same && fmt.Sprint(a) == fmt.Sprint(b)
}

func stateOf(x any) string {
	return fmt.Sprintf("%+v", x)
}
