package net_test

import (
	"fmt"
	"math/rand"
	"slices"
	"testing"

	"pannier/api"
	"pannier/net"
)

// plainNet is a list of packets, with what was sent, how often it was doubled, and how often it was taken:
// each packet has one of those that were sent as its first.
type plainNet struct {
	nodes   int
	given   int
	packets []api.Packet
	first   map[int]int // by an Id, that of the packet that was sent
	sent    map[int]api.Packet
	doubled map[int]int
	taken   map[int]int
}

func (p *plainNet) add(packet api.Packet) int {
	p.given++
	packet.Id = p.given
	p.packets = append(p.packets, packet)
	return p.given
}

func (p *plainNet) send(from, to int, body string) (int, api.Errno) {
	if from < 0 || from >= p.nodes || to < 0 || to >= p.nodes {
		return 0, api.ErrArg
	}
	id := p.add(api.Packet{From: from, To: to, Body: body})
	p.first[id], p.sent[id] = id, api.Packet{From: from, To: to, Body: body}
	return id, api.OK
}

func (p *plainNet) place(id int) int {
	return slices.IndexFunc(p.packets, func(x api.Packet) bool { return x.Id == id })
}

func (p *plainNet) take(id int) (api.Packet, api.Errno) {
	at := p.place(id)
	if at < 0 {
		return api.Packet{}, api.ErrNone
	}
	packet := p.packets[at]
	p.packets = slices.Concat(p.packets[:at], p.packets[at+1:])
	return packet, api.OK
}

func (p *plainNet) twice(id int) (int, api.Errno) {
	at := p.place(id)
	if at < 0 {
		return 0, api.ErrNone
	}
	copied := p.add(p.packets[at])
	p.first[copied] = p.first[id]
	p.doubled[p.first[id]]++
	return copied, api.OK
}

// checkTaken looks whether what is taken was sent just so, and not oftener than it may be.
func (p *plainNet) checkTaken(t *testing.T, packet api.Packet) {
	t.Helper()
	first := p.first[packet.Id]
	p.taken[first]++
	packet.Id = 0
	if sent, is := p.sent[first]; !is || packet != sent || p.taken[first] > 1+p.doubled[first] {
		t.Fatalf("taken: %v; sent: %v, doubled %d times, taken %d times", packet, sent, p.doubled[first], p.taken[first])
	}
}

func stepBoth(t *testing.T, rng *rand.Rand, n *net.Net, p *plainNet) {
	t.Helper()
	id := rng.Intn(p.given+3) - 1
	if at, ok := n.At(rng.Int() - rng.Int()); ok && rng.Intn(3) > 0 {
		id = at
	}
	switch rng.Intn(4) {
	case 0, 1:
		from, to, body := rng.Intn(p.nodes+2)-1, rng.Intn(p.nodes+2)-1, fmt.Sprint(rng.Int())
		got, err := n.Send(from, to, body)
		if wanted, wantedErr := p.send(from, to, body); got != wanted || err != wantedErr {
			t.Fatalf("Send(%d, %d, ..): %d, %d, not %d, %d", from, to, got, err, wanted, wantedErr)
		}
	case 2:
		got, err := n.Take(id)
		if wanted, wantedErr := p.take(id); got != wanted || err != wantedErr {
			t.Fatalf("Take(%d): %v, %d, not %v, %d", id, got, err, wanted, wantedErr)
		}
		if err == api.OK {
			p.checkTaken(t, got)
		}
	case 3:
		got, err := n.Twice(id)
		if wanted, wantedErr := p.twice(id); got != wanted || err != wantedErr {
			t.Fatalf("Twice(%d): %d, %d, not %d, %d", id, got, err, wanted, wantedErr)
		}
	}
}

// Whatever is done, one behind the other, a bag tells what the plain one tells; and what is taken was sent.
func TestAsThePlainOne(t *testing.T) {
	for seed := range int64(100) {
		rng := rand.New(rand.NewSource(seed))
		p := &plainNet{nodes: 1 + rng.Intn(7), first: map[int]int{}, sent: map[int]api.Packet{}, doubled: map[int]int{}, taken: map[int]int{}}
		n := newNet(t, p.nodes)
		for range 150 {
			stepBoth(t, rng, n, p)
			if rng.Intn(10) == 0 {
				other := n
				n = n.Fork()
				other.Send(0, 0, "other")
				other.Take(p.given)
			}
			wantPackets(t, n, p.packets...)
		}
		if t.Failed() {
			t.Fatalf("seed %d", seed)
		}
	}
}
