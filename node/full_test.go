package node_test

import (
	"fmt"
	"testing"

	"pannier/api"
)

// MaxDots events may be applied; one more update is refused, and not recorded.
func TestMaxDots(t *testing.T) {
	c := config(2)
	c.Segment = api.MaxSegment
	d := newDisk(t, c.Disk)
	n := start(t, c, 1, d, 0)
	seq := 0
	for vcount := 0; vcount < api.MaxDots-2; vcount++ {
		call(t, n, update(vcount, fmt.Sprint("c", vcount%100), "tea", 1))
		seq++
	}
	n.On(delta(0, 1, adds(0, 1, 1)))
	call(t, n, update(1, "c", "tea", 2))
	out := answers(flush(t, n))
	if last := out[len(out)-1]; last.Err != api.OK || last.Dot.Seq != seq+1 {
		t.Error("the last one:", last)
	}
	recs := len(records(t, d, c.Segment))
	call(t, n, update(2, "c", "tea", 4))
	wantAnswers(t, "one more", n, api.Answer{Id: 2, Err: api.ErrFull, Applied: []int{1, seq + 1}})
	if l := len(records(t, d, c.Segment)); l != recs || l != api.MaxDots {
		t.Error(l, "records")
	}
	wantSame(t, "the cart", n.Read("c"), tea(3))
	if len(n.Events()) != api.MaxDots {
		t.Error(len(n.Events()), "events")
	}
	n.On(delta(0, 1, adds(0, 2, 8, 1)))
	wantSame(t, "the cart", n.Read("c"), tea(3))
	if err := n.Compact(); err != api.ErrFrame {
		t.Error("Compact:", err)
	}
	m := start(t, c, 1, all(d), 0)
	wantSame(t, "behind a crash", m.Applied(), n.Applied())
	wantSame(t, "the cart", m.Read("c"), tea(3))
	// Checkouts and reads go on.
	m.Tick(100)
	b := leads(t, m, 2, 1)
	call(t, m, checkout(3, "c", "t"))
	flush(t, m)
	accepted(m, 2, 1, b, 0)
	wantAnswers(t, "an order", m, api.Answer{Id: 3, Order: order(1, "t", "c", 0, 1, seq+1), Lines: tea(3), Known: true, Applied: []int{1, seq + 1}, Learned: 1})
}

// MaxDots entries may be learned; no more are recorded.
func TestMaxEntries(t *testing.T) {
	c := config(1)
	c.Segment = api.MaxSegment
	d := newDisk(t, c.Disk)
	n := start(t, c, 0, d, 0)
	for slot := range api.MaxDots {
		n.On(chosen(0, 0, slot, noop()))
	}
	n.On(chosen(0, 0, api.MaxDots, noop()))
	if l := len(records(t, d, c.Segment)); l != api.MaxDots || len(n.Entries()) != api.MaxDots {
		t.Error(l, "records,", len(n.Entries()), "entries")
	}
	n.Elect()
	flush(t, n)
	n.Renew()
	flush(t, n)
	call(t, n, status(1, "t"))
	wantAnswers(t, "by the lease", n, api.Answer{Id: 1, Learned: api.MaxDots})
	call(t, n, checkout(2, "c", "t")) // it is chosen, and can't be learned
	flush(t, n)
	call(t, n, status(3, "t"))
	flush(t, n)
	flush(t, n)
	if n.Waits() != 2 {
		t.Error(n.Waits(), "wait")
	}
}

// MaxWaits events may wait; one more is passed over, also when the records are read again.
func TestMaxWaits(t *testing.T) {
	c := config(2)
	c.Segment = api.MaxSegment
	d := newDisk(t, c.Disk)
	n := start(t, c, 1, d, 0)
	var l []api.Event
	for seq := 2; seq <= api.MaxWaits+3; seq++ {
		l = append(l, adds(0, seq, 1, seq-1))
	}
	for len(l) > 0 {
		k := min(16, len(l))
		n.On(delta(0, 1, l[:k]...))
		l = l[k:]
	}
	m := start(t, c, 1, all(d), 0)
	n.On(delta(0, 1, adds(0, 1, 1)))
	m.On(delta(0, 1, adds(0, 1, 1)))
	wantSame(t, "applied", n.Applied(), []int{api.MaxWaits + 1})
	wantSame(t, "applied behind a crash", m.Applied(), n.Applied())
	n.On(delta(0, 1, adds(0, api.MaxWaits+2, 1, api.MaxWaits+1)))
	wantSame(t, "it comes again", n.Applied(), []int{api.MaxWaits + 2})
	wantState(t, "behind a crash", start(t, c, 1, all(d), 0), n)
}
