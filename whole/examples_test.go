package whole_test

import (
	"testing"

	"pannier/api"
	"pannier/cart"
)

func tea(qty int) []api.Line {
	return []api.Line{{Sku: "tea", Qty: qty}}
}

// wantCart looks whether all nodes that are up read that in the cart c, and tell a client so.
func (w *world) wantCart(what string, wanted []api.Line) {
	w.t.Helper()
	for id := range w.config.Nodes {
		if !w.c.Up(0, id) {
			continue
		}
		call := w.read(id, "c")
		w.must(at(api.StepFlush, 0, id))
		if a := w.answer(call); a.Err != api.OK || !cart.Same(a.Lines, wanted) {
			w.t.Errorf("%s: node %d reads %+v, not %v", what, id, a, wanted)
		}
	}
}

// wantOrder looks what a checkout was told.
func (w *world) wantOrder(call, id, epoch int, lines []api.Line) {
	w.t.Helper()
	if a := w.answer(call); a.Err != api.OK || !a.Known || a.Order.Id != id || a.Order.Epoch != epoch || !cart.Same(a.Lines, lines) {
		w.t.Errorf("call %d was told %+v, not order %d of epoch %d: %v", call, a, id, epoch, lines)
	}
}

// TestExample1: two nodes each add 1 tea, without knowing of one another.
func TestExample1(t *testing.T) {
	w := small(t)
	w.add(0, "c", "tea", 1)
	w.add(1, "c", "tea", 1)
	w.flushAll(0)
	w.speak(0)
	w.wantCart("when they have spoken", tea(2))
	w.look()
}

// TestExample2: one node clears tea, having seen one of two additions.
func TestExample2(t *testing.T) {
	w := small(t)
	w.add(0, "c", "tea", 5)
	w.speak(0)
	w.add(0, "c", "tea", 2)
	w.call(1, api.Call{Kind: api.CallUpdate, Cart: "c", Sku: "tea", Clears: true})
	w.flushAll(0)
	w.speak(0)
	w.wantCart("the other one stays", tea(2))
	w.look()
}

// TestExample3: a checkout is of what the leader had; what another node had goes on in the cart.
func TestExample3(t *testing.T) {
	w := small(t)
	w.lead(0, 0)
	w.add(0, "c", "tea", 2)
	w.add(1, "c", "tea", 7)
	w.must(at(api.StepFlush, 0, 1))
	call := w.checkout(0, "c", "t")
	w.settle(0)
	w.speak(0)
	w.wantOrder(call, 1, 0, tea(2))
	w.wantCart("what goes on", tea(7))
	w.look()
	w.wantAlike(0)
}

// TestExample4: the same token again, at another node, behind a crash. Who does not have all of the order yet
// tells of it when what is missing has come.
func TestExample4(t *testing.T) {
	for _, has := range []bool{true, false} {
		w := small(t)
		w.lead(0, 0)
		w.add(0, "c", "tea", 2)
		first := w.checkout(0, "c", "t")
		w.settle(0)
		if has {
			w.speak(0)
		}
		w.crash(0, 0)
		w.tick(0, 200)
		w.lead(0, 1)
		w.add(1, "c", "tea", 3)
		second := w.checkout(1, "c", "t")
		w.settle(0)
		if _, told := w.told(second); told != has {
			t.Errorf("it has all: %v, and told: %v", has, told)
		}
		w.restart(0, 0)
		w.speak(0)
		w.wantOrder(first, 1, 0, tea(2))
		w.wantOrder(second, 1, 0, tea(2))
		w.wantCart("what came behind", tea(3))
		w.look()
	}
}

// TestExample5: two checkouts of a cart at once, with two tokens.
func TestExample5(t *testing.T) {
	w := small(t)
	w.lead(0, 0)
	w.add(0, "c", "tea", 2)
	first := w.checkout(0, "c", "t")
	second := w.checkout(0, "c", "u")
	w.settle(0)
	a, b := w.answer(first), w.answer(second)
	if a.Order.Id != 1 || a.Order.Epoch != 0 || b.Order.Id != 2 || b.Order.Epoch != 1 {
		t.Errorf("orders %+v, %+v", a.Order, b.Order)
	}
	if cart.Total(a.Lines)+cart.Total(b.Lines) != 2 {
		t.Errorf("the update is not in one: %v, %v", a.Lines, b.Lines)
	}
	w.wantCart("nothing is left", nil)
	w.look()
}

// TestExample6: what was told is there behind a crash; what was taken alone may be gone, and nobody was told.
func TestExample6(t *testing.T) {
	for bytes := range 200 {
		w := small(t)
		w.add(0, "c", "tea", 1)
		w.must(at(api.StepFlush, 0, 0))
		taken := w.add(0, "c", "tea", 2)
		s := at(api.StepCrash, 0, 0)
		if bytes > 0 {
			s.Keep = []api.Torn{{Name: "n-log-1", Bytes: bytes}}
		}
		if w.do(s) != api.OK { // so many bytes were not unsure
			if bytes < 10 {
				t.Fatal("an update has", bytes-1, "bytes")
			}
			return
		}
		w.restart(0, 0)
		lines := w.c.Node(0, 0).Read("c")
		if _, told := w.told(taken); told || !cart.Same(lines, tea(1)) && !cart.Same(lines, tea(3)) || bytes == 0 && !cart.Same(lines, tea(1)) {
			t.Errorf("of %d bytes: %v, told %v", bytes, lines, told)
		}
		w.look()
	}
	t.Error("there is no end of unsure bytes")
}

// cutOff has packets come that are neither from nor to that node, and the others be lost.
func (w *world) cutOff(id int) {
	w.t.Helper()
	for range 6 {
		for len(w.c.Packets(0)) > 0 {
			kind := api.StepDeliver
			if p := w.c.Packets(0)[0]; p.From == id || p.To == id {
				kind = api.StepLose
			}
			w.must(packet(kind, 0, 0))
		}
		for other := range w.config.Nodes {
			if other != id {
				w.must(at(api.StepFlush, 0, other))
			}
		}
	}
}

// TestExample7: a leader that is cut off proposes. The next leader has it chosen, if one of its majority voted
// for it; else nobody is told of it, till it is tried again.
func TestExample7(t *testing.T) {
	for _, reached := range []bool{false, true} {
		w := small(t)
		w.lead(0, 0)
		w.add(0, "c", "tea", 1)
		call := w.checkout(0, "c", "t")
		w.must(at(api.StepFlush, 0, 0))
		for place := len(w.c.Packets(0)) - 1; reached && place >= 0; place-- {
			if w.c.Packets(0)[place].To == 2 {
				w.must(packet(api.StepDeliver, 0, place))
			}
		}
		w.cutOff(0)
		w.must(at(api.StepElect, 0, 1))
		w.must(at(api.StepFlush, 0, 1))
		w.cutOff(0)
		if log := w.c.Node(0, 1).Entries(); len(log) > 0 != reached || reached && log[0].Seal.Token != "t" {
			t.Errorf("reached %v: the next leader has %+v", reached, log)
		}
		// The elder one proposes again, and is refused.
		w.must(at(api.StepAgain, 0, 0))
		w.settle(0)
		if w.c.Node(0, 0).Phase() == api.PhaseLeading {
			t.Errorf("reached %v: it still leads", reached)
		}
		if _, told := w.told(call); told && !reached {
			t.Error("told of what was not chosen")
		}
		w.look()
		again := w.checkout(1, "c", "t")
		w.settle(0)
		w.speak(0)
		lines := tea(1)
		if !reached { // the next leader had not heard of the tea
			lines = nil
		}
		w.wantOrder(again, 1, 0, lines)
		w.look()
	}
}

// TestExample8: a status from a lease is told at once; when the lease is over, through the log.
func TestExample8(t *testing.T) {
	w := small(t)
	w.lead(0, 0)
	w.must(at(api.StepRenew, 0, 0))
	w.settle(0)
	first := w.status(0, "c", "t")
	w.must(at(api.StepFlush, 0, 0))
	if a := w.answer(first); a.Err != api.OK || a.Known || a.Learned != 0 {
		t.Error("from a lease:", a)
	}
	w.tick(0, 100)
	second := w.status(0, "c", "t")
	w.must(at(api.StepFlush, 0, 0))
	if a, told := w.told(second); told {
		t.Error("the lease is over:", a)
	}
	w.settle(0)
	if a := w.answer(second); a.Err != api.OK || a.Known || a.Learned != 1 {
		t.Error("through the log:", a)
	}
	w.look()
}

// TestExample9: a disk that is full.
func TestExample9(t *testing.T) {
	for size := range 40 {
		w := newWorld(t, "", api.Config{Nodes: 2, Lease: 100, Segment: 1 << 12, Disk: 100 + size}, 1)
		count := 0
		for {
			call := w.add(0, "c", "tea", 1)
			w.must(at(api.StepFlush, 0, 0))
			a := w.answer(call)
			if a.Err == api.ErrFull {
				break
			}
			if count++; a.Err != api.OK || count > 100 {
				t.Fatalf("update %d on %d bytes: %+v", count, 100+size, a)
			}
		}
		if lines := w.c.Node(0, 0).Read("c"); !cart.Same(lines, tea(count)) {
			t.Errorf("%d updates on %d bytes: %v", count, 100+size, lines)
		}
		w.look()
		w.crash(0, 0)
		w.restart(0, 0)
		if lines := w.c.Node(0, 0).Read("c"); !cart.Same(lines, tea(count)) {
			t.Errorf("%d updates on %d bytes, and a crash: %v", count, 100+size, lines)
		}
		w.look()
	}
}

// TestExample10: all nodes crash and restart.
func TestExample10(t *testing.T) {
	w := small(t)
	w.lead(0, 0)
	w.add(0, "c", "tea", 4)
	w.add(1, "c", "tea", 3)
	first := w.checkout(0, "c", "t")
	w.settle(0)
	w.must(at(api.StepRenew, 0, 0))
	w.settle(0)
	w.crash(0, 0, 1, 2)
	w.restart(0, 0, 1, 2)
	w.must(at(api.StepElect, 0, 2))
	w.settle(0)
	if len(w.leaders(0)) > 0 {
		t.Error("a node leads at once")
	}
	w.tick(0, 100)
	w.lead(0, 2)
	second := w.checkout(2, "c", "t")
	w.settle(0)
	w.speak(0)
	w.wantOrder(first, 1, 0, tea(4))
	w.wantOrder(second, 1, 0, tea(4))
	w.wantCart("what no order took", tea(3))
	w.look()
	w.wantAlike(0)
}
