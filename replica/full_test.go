package replica_test

import (
	"reflect"
	"slices"
	"testing"

	"pannier/api"
	"pannier/replica"
)

// full is a replica of the node 1 that made so many events less than MaxDots.
func full(t *testing.T, less int) *replica.Replica {
	t.Helper()
	r := made(t, 1)
	for range api.MaxDots - less {
		update(t, r, "c", "tea", 1, false)
	}
	return r
}

// MaxDots events are applied, and then none is made nor taken any more; seals still are learned.
func TestFull(t *testing.T) {
	r := full(t, 2)
	take(t, r, event(0, 3, 2))
	take(t, r, event(0, 1), event(0, 1))
	update(t, r, "c", "tea", 1, false)
	if v := r.Applied(); !slices.Equal(v, []int{1, api.MaxDots - 1}) {
		t.Fatal("Applied:", v)
	}
	for _, r := range []*replica.Replica{r, r.Fork()} {
		unchanged(t, r, func() {
			if e, err := r.Update("c", "tea", 1, false); !reflect.DeepEqual(e, api.Event{}) || err != api.ErrFull {
				t.Error("Update:", e, err)
			}
			for _, name := range wrongNames() {
				if e, err := r.Update(name, "tea", 1, false); !reflect.DeepEqual(e, api.Event{}) || err != api.ErrArg {
					t.Error("Update of a wrong name:", e, err)
				}
			}
			if _, err := r.Update("c", "tea", api.MaxQty+1, false); err != api.ErrArg {
				t.Error("Update of too many:", err)
			}
			for _, x := range []struct {
				e      api.Event
				wanted api.Errno
			}{
				{event(1, 1), api.ErrEvent}, {event(0, 0), api.ErrEvent}, {event(0, 1), api.ErrTwice}, {event(0, 3, 2), api.ErrTwice},
				{event(0, 2, 1), api.ErrFull}, {event(2, 1), api.ErrFull}, {event(3, 2, 0, 0, 0, 1), api.ErrFull},
			} {
				if l, err := r.Take(x.e); len(l) != 0 || err != x.wanted {
					t.Errorf("Take(%v): %v, %d, not %d", x.e.Dot, l, err, x.wanted)
				}
			}
		})
		wantLines(t, "Read", r.Read("c"), "tea", api.MaxDots)
		learn(t, r, seal("t", "c", 0, 1, api.MaxDots-1))
		lines, whole := r.Order("c", 0)
		wantLines(t, "Order", lines, "tea", api.MaxDots)
		if !whole {
			t.Error("the order is whole")
		}
		loaded, err := replica.Load(1, r.Save())
		if err != api.OK || loaded.Save() != r.Save() || loaded.Waiting() != 0 {
			t.Fatal("Load:", err)
		}
		if _, err := loaded.Update("c", "tea", 1, false); err != api.ErrFull {
			t.Error("Update of what was loaded:", err)
		}
	}
}

// What waits for an own update is applied as long as there is room.
func TestRoomEnds(t *testing.T) {
	r := full(t, 3)
	for seq := range 4 {
		e := event(0, seq+1, seq, api.MaxDots-2)
		if seq == 0 {
			e.Deps = []int{0, api.MaxDots - 2}
		}
		take(t, r, e)
	}
	if e := update(t, r, "c", "tea", 1, false); e.Dot.Seq != api.MaxDots-2 {
		t.Error("Update:", e)
	}
	if v := r.Applied(); !slices.Equal(v, []int{2, api.MaxDots - 2}) || r.Waiting() != 2 {
		t.Error("Applied:", v, r.Waiting())
	}
	if _, err := r.Update("c", "tea", 1, false); err != api.ErrFull {
		t.Error("Update:", err)
	}
}

// MaxWaits events wait, and then none more.
func TestWaitingIsFull(t *testing.T) {
	r := made(t, 1)
	for seq := range api.MaxWaits {
		take(t, r, event(0, seq+2, seq+1))
	}
	unchanged(t, r, func() {
		for _, e := range []api.Event{event(0, api.MaxWaits+2, api.MaxWaits+1), event(2, 1, 1)} {
			if l, err := r.Take(e); len(l) != 0 || err != api.ErrFull {
				t.Error("Take:", l, err)
			}
		}
	})
	if n := r.Waiting(); n != api.MaxWaits {
		t.Error("Waiting:", n)
	}
	update(t, r, "c", "tea", 1, false)
	if l, err := r.Take(event(0, 1)); len(l) != api.MaxWaits+1 || err != api.OK || r.Waiting() != 0 {
		t.Error("all are applied:", len(l), err, r.Waiting())
	}
}

// Far more events than may wait, each of which waits for one that stands behind it in what is saved.
func TestLoadOfWhatWouldWait(t *testing.T) {
	writer, reader := made(t, 0), made(t, 3)
	first := event(6, 1)
	take(t, writer, first, first)
	take(t, reader, first, first)
	for range 3 * api.MaxWaits {
		e := update(t, writer, "c", "tea", 1, false)
		take(t, reader, e, e)
	}
	update(t, reader, "c", "tea", 1, false)
	for node, saved := range []string{writer.Save(), reader.Save(), reader.Save(), reader.Save()} {
		r, err := replica.Load(node, saved)
		if err != api.OK || r.Save() != saved || r.Waiting() != 0 {
			t.Errorf("Load at node %d: %d", node, err)
		}
	}
}

// Seals have no limit of their own, and none of them is looked for among all.
func TestManySeals(t *testing.T) {
	r := made(t, 0)
	for epoch := range 1 << 15 {
		learn(t, r, seal("t", "c", epoch), seal("t", "d", epoch, 1))
	}
	if r.Epoch("c") != 1<<15 || r.Epoch("d") != 1<<15 || len(r.Seals()) != 1<<16 {
		t.Error("Epoch:", r.Epoch("c"), r.Epoch("d"), len(r.Seals()))
	}
	e := update(t, r, "d", "tea", 1, false)
	if e.Epoch != 1<<15 {
		t.Error("Update:", e)
	}
	loaded, err := replica.Load(0, r.Save())
	if err != api.OK || loaded.Save() != r.Save() {
		t.Error("Load:", err)
	}
}
