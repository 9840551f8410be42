package net_test

import (
	"fmt"
	"iter"
	"math"
	"slices"
	"strings"
	"testing"

	"pannier/api"
	"pannier/net"
)

func newNet(t *testing.T, nodes int) *net.Net {
	t.Helper()
	n, err := net.New(nodes)
	if n == nil || err != api.OK {
		t.Fatalf("New(%d): %v, %d", nodes, n, err)
	}
	return n
}

func send(t *testing.T, n *net.Net, from, to int, body string, wanted int) {
	t.Helper()
	if id, err := n.Send(from, to, body); id != wanted || err != api.OK {
		t.Errorf("Send(%d, %d, ..): %d, %d, not %d", from, to, id, err, wanted)
	}
}

// wantPackets looks at all that the bag tells of its packets.
func wantPackets(t *testing.T, n *net.Net, packets ...api.Packet) {
	t.Helper()
	if l := n.All(); !slices.Equal(l, packets) || n.Len() != len(packets) {
		t.Errorf("packets: %v, %d of them, not %v", l, n.Len(), packets)
	}
	for node := -1; node < 8; node++ {
		var wanted []api.Packet
		for _, p := range packets {
			if p.To == node {
				wanted = append(wanted, p)
			}
		}
		if l := slices.Collect(n.To(node)); !slices.Equal(l, wanted) {
			t.Errorf("packets to %d: %v, not %v", node, l, wanted)
		}
	}
	for i, p := range packets {
		if id, ok := n.At(i); id != p.Id || !ok {
			t.Errorf("At(%d): %d, %v, not %d", i, id, ok, p.Id)
		}
	}
}

func TestNew(t *testing.T) {
	for _, nodes := range []int{0, 8, -1, math.MinInt, math.MaxInt} {
		if n, err := net.New(nodes); n != nil || err != api.ErrArg {
			t.Errorf("New(%d): %v, %d", nodes, n, err)
		}
	}
	for nodes := 1; nodes <= 7; nodes++ {
		n := newNet(t, nodes)
		wantPackets(t, n)
		send(t, n, nodes-1, nodes-1, "", 1)
	}
}

func TestSend(t *testing.T) {
	n := newNet(t, 3)
	send(t, n, 0, 2, "hi", 1)
	send(t, n, 2, 0, "", 2)
	send(t, n, 1, 1, "\x00\xff", 3)
	wantPackets(t, n, api.Packet{Id: 1, To: 2, Body: "hi"}, api.Packet{Id: 2, From: 2}, api.Packet{Id: 3, From: 1, To: 1, Body: "\x00\xff"})
}

func TestSendRefuses(t *testing.T) {
	n := newNet(t, 3)
	long := strings.Repeat("x", 65537)
	for _, node := range []int{-1, 3, 7, math.MinInt, math.MaxInt} {
		for _, body := range []string{"", long} {
			for _, pair := range [][2]int{{node, 0}, {0, node}, {node, node}} {
				if id, err := n.Send(pair[0], pair[1], body); id != 0 || err != api.ErrArg {
					t.Errorf("Send(%d, %d, ..): %d, %d", pair[0], pair[1], id, err)
				}
			}
		}
	}
	if id, err := n.Send(0, 1, long); id != 0 || err != api.ErrLong {
		t.Errorf("Send of 65537 bytes: %d, %d", id, err)
	}
	wantPackets(t, n)
	send(t, n, 0, 1, long[1:], 1)
	wantPackets(t, n, api.Packet{Id: 1, To: 1, Body: long[1:]})
}

func TestExample(t *testing.T) {
	n := newNet(t, 3)
	send(t, n, 0, 1, "a", 1)
	send(t, n, 1, 2, "b", 2)
	if id, err := n.Twice(1); id != 3 || err != api.OK {
		t.Errorf("Twice: %d, %d", id, err)
	}
	wantPackets(t, n, api.Packet{Id: 1, To: 1, Body: "a"}, api.Packet{Id: 2, From: 1, To: 2, Body: "b"}, api.Packet{Id: 3, To: 1, Body: "a"})
	if p, err := n.Take(1); p != (api.Packet{Id: 1, To: 1, Body: "a"}) || err != api.OK {
		t.Errorf("Take: %v, %d", p, err)
	}
	if p, err := n.Take(1); p != (api.Packet{}) || err != api.ErrNone {
		t.Errorf("Take again: %v, %d", p, err)
	}
	if id, err := n.Twice(1); id != 0 || err != api.ErrNone {
		t.Errorf("Twice of what is gone: %d, %d", id, err)
	}
	if p, err := n.Take(3); p != (api.Packet{Id: 3, To: 1, Body: "a"}) || err != api.OK {
		t.Errorf("Take of the copy: %v, %d", p, err)
	}
	wantPackets(t, n, api.Packet{Id: 2, From: 1, To: 2, Body: "b"})
}

func TestNoSuchPacket(t *testing.T) {
	n := newNet(t, 2)
	for range 2 {
		for _, id := range []int{0, -1, 4, math.MinInt, math.MaxInt} {
			if p, err := n.Take(id); p != (api.Packet{}) || err != api.ErrNone {
				t.Errorf("Take(%d): %v, %d", id, p, err)
			}
			if id, err := n.Twice(id); id != 0 || err != api.ErrNone {
				t.Errorf("Twice(%d): %d", id, err)
			}
		}
		n.Send(0, 1, "x")
	}
	wantPackets(t, n, api.Packet{Id: 1, To: 1, Body: "x"}, api.Packet{Id: 2, To: 1, Body: "x"})
}

// Ids are given one by one, also behind what was refused, and when all packets are gone.
func TestIdsAreNew(t *testing.T) {
	n := newNet(t, 2)
	for id := 1; id < 100; id += 2 {
		send(t, n, 0, 1, "x", id)
		n.Send(0, 2, "x")
		n.Twice(id + 1)
		n.Take(id + 1)
		if copied, err := n.Twice(id); copied != id+1 || err != api.OK {
			t.Errorf("Twice: %d, %d", copied, err)
		}
		n.Take(id)
		n.Take(id + 1)
		wantPackets(t, n)
	}
}

func TestAt(t *testing.T) {
	n := newNet(t, 2)
	for _, place := range []int{0, 1, -1, math.MinInt, math.MaxInt} {
		if id, ok := n.At(place); id != 0 || ok {
			t.Errorf("At(%d) of none: %d, %v", place, id, ok)
		}
	}
	for id := range 5 {
		send(t, n, 0, 1, "x", id+1)
	}
	n.Take(2)
	n.Take(4)
	for place := -30; place < 30; place++ {
		wanted := []int{1, 3, 5}[(place+30)%3]
		if id, ok := n.At(place); id != wanted || !ok {
			t.Errorf("At(%d): %d, %v, not %d", place, id, ok, wanted)
		}
	}
	// 2^63 is 2 modulo 3, so -2^63 is 1, and 2^63 - 1 is 1.
	for _, place := range []int{math.MinInt, math.MaxInt} {
		if id, ok := n.At(place); id != 3 || !ok {
			t.Errorf("At(%d): %d, %v", place, id, ok)
		}
	}
	if n.Len() != 3 {
		t.Errorf("At took some: %d", n.Len())
	}
}

func ids(packets iter.Seq[api.Packet]) []int {
	var l []int
	for p := range packets {
		l = append(l, p.Id)
	}
	return l
}

func TestToIsAsTheBagIs(t *testing.T) {
	n := newNet(t, 3)
	to := n.To(2)
	if l := ids(to); len(l) != 0 {
		t.Errorf("of an empty bag: %v", l)
	}
	for i := range 6 {
		send(t, n, 0, 1+i%2, "x", i+1)
	}
	if l := ids(to); !slices.Equal(l, []int{2, 4, 6}) {
		t.Errorf("behind six: %v", l)
	}
	var l []int
	for p := range to {
		l = append(l, p.Id)
		n.Take(6)
		n.Take(p.Id)
		n.Send(0, 2, "y")
	}
	if !slices.Equal(l, []int{2, 4, 6}) {
		t.Errorf("while the bag changes: %v", l)
	}
	if l := ids(to); !slices.Equal(l, []int{7, 8, 9}) {
		t.Errorf("anew: %v", l)
	}
	for range 2 {
		for p := range to {
			if p != (api.Packet{Id: 7, To: 2, Body: "y"}) {
				t.Errorf("does not begin anew: %v", p)
			}
			break
		}
	}
	if l := ids(n.To(2)); !slices.Equal(l, []int{7, 8, 9}) || n.Len() != 6 {
		t.Errorf("going over them changed the bag: %v", l)
	}
}

func TestAllIsNewMemory(t *testing.T) {
	n := newNet(t, 2)
	send(t, n, 0, 1, "x", 1)
	send(t, n, 1, 0, "y", 2)
	one, two := n.All(), n.All()
	clear(one[:cap(one)])
	n.Take(1)
	if !slices.Equal(two, []api.Packet{{Id: 1, To: 1, Body: "x"}, {Id: 2, From: 1, Body: "y"}}) {
		t.Errorf("answers share memory: %v", two)
	}
	wantPackets(t, n, api.Packet{Id: 2, From: 1, Body: "y"})
}

func TestFork(t *testing.T) {
	n := newNet(t, 2)
	for id := range 4 {
		send(t, n, 0, 1, fmt.Sprint(id), id+1)
	}
	n.Take(1)
	was := n.All()
	o := n.Fork()
	wantPackets(t, o, was...)
	o.Take(2)
	send(t, o, 1, 0, "new", 5)
	wantPackets(t, n, was...)
	n.Take(3)
	if id, err := n.Twice(4); id != 5 || err != api.OK {
		t.Errorf("Twice: %d, %d", id, err)
	}
	wantPackets(t, o, api.Packet{Id: 3, To: 1, Body: "2"}, api.Packet{Id: 4, To: 1, Body: "3"}, api.Packet{Id: 5, From: 1, Body: "new"})
	if _, err := o.Send(0, 2, ""); err != api.ErrArg {
		t.Errorf("a Fork has more nodes: %d", err)
	}
}

func TestFullBag(t *testing.T) {
	n := newNet(t, 7)
	for id := range 65536 {
		if got, err := n.Send(0, id%7, "x"); got != id+1 || err != api.OK {
			t.Fatalf("Send %d: %d, %d", id, got, err)
		}
	}
	if id, err := n.Send(0, 1, "x"); id != 0 || err != api.ErrFull {
		t.Errorf("Send to a full bag: %d, %d", id, err)
	}
	if id, err := n.Send(0, 1, strings.Repeat("x", 65537)); id != 0 || err != api.ErrLong {
		t.Errorf("Send of too much to a full bag: %d, %d", id, err)
	}
	if id, err := n.Send(0, 7, "x"); id != 0 || err != api.ErrArg {
		t.Errorf("Send to nobody, of a full bag: %d, %d", id, err)
	}
	if id, err := n.Twice(1); id != 0 || err != api.ErrFull {
		t.Errorf("Twice of a full bag: %d, %d", id, err)
	}
	if id, err := n.Twice(65537); id != 0 || err != api.ErrNone {
		t.Errorf("Twice of none, of a full bag: %d, %d", id, err)
	}
	if n.Len() != 65536 || len(n.All()) != 65536 {
		t.Errorf("%d packets", n.Len())
	}
	o := n.Fork()
	n.Take(100)
	if id, err := n.Twice(1); id != 65537 || err != api.OK {
		t.Errorf("Twice: %d, %d", id, err)
	}
	o.Take(100)
	send(t, o, 0, 1, "x", 65537)
	if id, err := o.Send(0, 1, "x"); id != 0 || err != api.ErrFull {
		t.Errorf("Send to a full Fork: %d, %d", id, err)
	}
	for range 65536 {
		id, _ := o.At(0)
		if _, err := o.Take(id); err != api.OK {
			t.Fatalf("Take(%d): %d", id, err)
		}
	}
	wantPackets(t, o)
}

func TestNoNet(t *testing.T) {
	for _, n := range []*net.Net{nil, {}} {
		for _, node := range []int{0, -1} {
			if id, err := n.Send(node, 0, ""); id != 0 || err != api.ErrClosed {
				t.Errorf("Send: %d, %d", id, err)
			}
			if p, err := n.Take(node); p != (api.Packet{}) || err != api.ErrClosed {
				t.Errorf("Take: %v, %d", p, err)
			}
			if id, err := n.Twice(node); id != 0 || err != api.ErrClosed {
				t.Errorf("Twice: %d, %d", id, err)
			}
			if id, ok := n.At(node); id != 0 || ok {
				t.Errorf("At: %d, %v", id, ok)
			}
		}
		wantPackets(t, n)
		if n.Fork() != nil {
			t.Error("a Fork of no net")
		}
	}
}
