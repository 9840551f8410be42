package cluster_test

import (
	"fmt"
	"strings"
	"testing"

	"pannier/api"
	"pannier/codec"
	"pannier/disk"
	"pannier/node"
)

// TestFlushInOrder: what a node on a disk of its own lets out, the cluster tells and sends, in that order.
func TestFlushInOrder(t *testing.T) {
	x := config(3)
	c := start(t, x, 1)
	d, _ := disk.New(x.Disk)
	n, err := node.New(x, 1, d, 0)
	if err != api.OK {
		t.Fatal(err)
	}
	var out []api.Out
	both := func(s api.Step, act func()) {
		t.Helper()
		do(t, c, s)
		act()
	}
	for i := range 4 {
		both(call(1, update(10*i, "c", "tea", i)), func() { n.Call(update(10*i, "c", "tea", i)) })
		both(gossip(1, 2), func() { n.Gossip(2) })
		both(call(1, checkout(10*i+1, "c", "t")), func() { n.Call(checkout(10*i+1, "c", "t")) })
		both(gossip(1, 0), func() { n.Gossip(0) })
		both(call(1, read(10*i+2, "c")), func() { n.Call(read(10*i+2, "c")) })
		both(at(api.StepElect, 1), n.Elect)
		if i%2 == 1 {
			both(at(api.StepFlush, 1), func() {
				l, err := n.Flush()
				if err != api.OK || len(l) == 0 {
					t.Fatal("Flush:", l, err)
				}
				out = append(out, l...)
			})
		}
	}
	var told []api.Answer
	for _, x := range c.Told() {
		told = append(told, x.Answer)
	}
	var sent []api.Msg
	for _, p := range c.Packets(0) {
		sent = append(sent, message(t, p))
	}
	wantSame(t, "told", told, answersOf(out))
	wantSame(t, "sent", sent, messagesOf(out))
	if len(told) != 12 || len(sent) < 12 {
		t.Error(len(told), "answers,", len(sent), "messages")
	}
}

func answersOf(out []api.Out) []api.Answer {
	var l []api.Answer
	for _, o := range out {
		if o.IsAnswer {
			l = append(l, o.Answer)
		}
	}
	return l
}

func messagesOf(out []api.Out) []api.Msg {
	var l []api.Msg
	for _, o := range out {
		if !o.IsAnswer {
			l = append(l, o.Msg)
		}
	}
	return l
}

// TestToldAtFlush: nothing is told, nothing is sent ahead of it; each with the step, the shard, the node.
func TestToldAtFlush(t *testing.T) {
	c := start(t, config(3), 2)
	cart := cartIn(1, 2)
	do(t, c, call(2, update(5, cart, "tea", 1)), in(1, gossip(2, 0)))
	if len(c.Told()) != 0 || len(c.Packets(1)) != 0 {
		t.Error("ahead of the Flush:", c.Told(), c.Packets(1))
	}
	do(t, c, in(1, at(api.StepFlush, 1)), at(api.StepFlush, 2))
	if len(c.Told()) != 0 || len(c.Packets(1)) != 0 {
		t.Error("by the Flush of others:", c.Told(), c.Packets(1))
	}
	do(t, c, in(1, at(api.StepFlush, 2)))
	wantSame(t, "told", c.Told(), []api.Told{{Step: 5, Shard: 1, Node: 2, Answer: api.Answer{Id: 5, Dot: api.Dot{Origin: 2, Seq: 1}, Applied: []int{0, 0, 1}}}})
	if l := c.Packets(1); len(l) != 1 || l[0].Id != 1 || l[0].From != 2 || l[0].To != 0 || len(c.Packets(0)) != 0 {
		t.Error("packets:", l, c.Packets(0))
	}
	do(t, c, in(1, at(api.StepFlush, 2)))
	if len(c.Told()) != 1 || len(c.Packets(1)) != 1 {
		t.Error("by another Flush:", c.Told(), c.Packets(1))
	}
}

// TestMessageTooLong: a promise with more votes than a message may have bytes is lost; the others go their way.
func TestMessageTooLong(t *testing.T) {
	x := config(3)
	x.Disk = 1 << 24
	c := start(t, x, 1)
	lead(t, c, 0, 0)
	do(t, c, crash(2))
	const slots = 900
	for i := range slots {
		name := fmt.Sprint(i)
		name += strings.Repeat("x", api.MaxName-len(name))
		do(t, c, call(0, checkout(i, name, name)))
		settle(t, c, 0)
	}
	if l := c.Told(); len(l) != slots || l[slots-1].Answer.Order.Id != slots {
		t.Fatal(len(l), "checkouts were told")
	}
	do(t, c, at(api.StepRestart, 2), tick(100, 100, 100, 100), at(api.StepElect, 2), at(api.StepFlush, 2))
	wantSame(t, "asked", kinds(t, c), []int{api.MsgPrepare, api.MsgPrepare})
	do(t, c, packet(api.StepDeliver, 0), packet(api.StepDeliver, 0))
	for id := range 2 {
		n := c.Node(0, id)
		if n.Promised() != c.Node(0, 2).Promised() || n.Held() != 1 {
			t.Fatalf("node %d promised %v, and holds back %d", id, n.Promised(), n.Held())
		}
		votes := api.Msg{Kind: api.MsgPromise, From: id, To: 2, Ballot: n.Promised(), Entry: api.Entry{Noop: true}, Voted: n.Votes()}
		if _, err := codec.Msg(votes); err != api.ErrLong {
			t.Fatal("its promise is not too long:", err)
		}
		do(t, c, gossip(id, 2), call(id, read(-id, "c")), at(api.StepFlush, id))
	}
	wantSame(t, "sent", kinds(t, c), []int{api.MsgDigest, api.MsgDigest})
	if l := c.Told(); len(l) != slots+2 {
		t.Error(len(l), "were told")
	}
	// It goes on all the same: when it knows what was chosen, it asks for less.
	for range slots/api.Batch + 1 {
		do(t, c, gossip(2, 0))
		settle(t, c, 0)
	}
	lead(t, c, 0, 2)
}

// TestFlushRefused: on a disk that is off nothing leaves, and what was held back is held back still.
func TestFlushRefused(t *testing.T) {
	c := start(t, config(2), 1)
	do(t, c, call(0, update(1, "c", "tea", 1)), at(api.StepFlush, 0))
	do(t, c, call(0, update(2, "c", "tea", 1)), gossip(0, 1), stop(0, 0))
	wantRefused(t, "off", c, at(api.StepFlush, 0), api.ErrOff)
	wantRefused(t, "off still", c, at(api.StepFlush, 0), api.ErrOff)
	if c.Node(0, 0).Held() != 2 || len(c.Told()) != 1 || len(c.Packets(0)) != 0 {
		t.Error("it holds back", c.Node(0, 0).Held(), "and told", c.Told())
	}
}
