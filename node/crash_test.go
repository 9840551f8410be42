package node_test

import (
	"fmt"
	"slices"
	"testing"

	"pannier/api"
	"pannier/disk"
	"pannier/node"
	"pannier/vv"
)

// scene is what a node is asked for, one behind the other; nil: a Flush.
func scene() []func(n *node.Node) {
	on := func(m api.Msg) func(n *node.Node) { return func(n *node.Node) { n.On(m) } }
	of := func(c api.Call) func(n *node.Node) { return func(n *node.Node) { n.Call(c) } }
	return []func(n *node.Node){
		of(update(1, "c", "tea", 1)), nil,
		on(delta(0, 1, adds(0, 2, 4, 1), adds(0, 1, 2))),
		of(update(2, "c", "tea", 8)),
		on(inBallot(api.MsgPrepare, 0, 1, ballot(1, 0), 0)), nil,
		on(accept(0, 1, ballot(1, 0), 0, sealed("t", "c", 0, 1))),
		of(read(3, "c")), nil,
		on(chosen(0, 1, 0, sealed("t", "c", 0, 1))),
		of(checkout(4, "c", "t")),
		func(n *node.Node) { n.Compact() }, nil,
		(*node.Node).Elect, nil,
		func(n *node.Node) { promise(n, 3, 1, 1, n.Promised()) },
		of(update(5, "c", "tea", 16)),
		of(checkout(6, "c", "u")), nil,
		func(n *node.Node) { accepted(n, 3, 1, n.Promised(), 1) }, nil,
		of(update(7, "d", "tea", 32)),
		func(n *node.Node) { n.Compact() },
		on(delta(2, 1, adds(2, 1, 64))),
		of(status(8, "u")), nil, nil,
	}
}

// facts are what a node told.
type facts struct {
	dots     []api.Dot
	promised api.Ballot
	votes    map[int]api.Ballot
	learned  int
	applied  []int
}

func (f *facts) take(out []api.Out) {
	for _, o := range out {
		a, m := o.Answer, o.Msg
		if o.IsAnswer && a.Err == api.OK {
			if a.Dot != (api.Dot{}) {
				f.dots = append(f.dots, a.Dot)
			}
			f.learned = max(f.learned, a.Learned)
			f.applied = vv.Merge(f.applied, a.Applied)
		}
		switch m.Kind {
		case api.MsgPromise, api.MsgPrepare:
			f.promised = m.Ballot
		case api.MsgAccepted:
			f.votes[m.Slot] = m.Ballot
		}
	}
}

// want looks whether n has all that was told.
func (f *facts) want(t *testing.T, what string, n *node.Node) {
	t.Helper()
	for _, d := range f.dots {
		if !vv.Has(n.Applied(), d) {
			t.Errorf("%s: %v is gone", what, d)
		}
	}
	if !vv.Below(f.applied, n.Applied()) || len(n.Entries()) < f.learned {
		t.Errorf("%s: %v, %d, told: %v, %d", what, n.Applied(), len(n.Entries()), f.applied, f.learned)
	}
	if p := n.Promised(); p.Round < f.promised.Round {
		t.Errorf("%s: promised %v, told %v", what, p, f.promised)
	}
	for slot, b := range f.votes {
		if !slices.ContainsFunc(n.Votes(), func(v api.Voted) bool { return v.Slot == slot && v.Ballot.Round >= b.Round }) {
			t.Errorf("%s: the vote of %d is gone", what, slot)
		}
	}
}

// play has a node on d do the first steps of the scene, and answers what it told, and all states that it ever had.
func play(t *testing.T, c api.Config, d *disk.Disk, steps int) (*facts, map[string]int) {
	t.Helper()
	n := start(t, c, 1, d, 0)
	f := &facts{votes: map[int]api.Ballot{}}
	states := map[string]int{state(n): 0}
	for i, do := range scene()[:steps] {
		if do == nil {
			out, _ := n.Flush()
			f.take(out)
		} else {
			do(n)
		}
		states[state(n)] = i
	}
	return f, states
}

// Whatever power goes whenever, whatever beginning of unsure bytes lasts: what was told is there, and nothing is
// there that was not done.
func TestCrashes(t *testing.T) {
	for _, segment := range []int{1, 100, 1 << 12} {
		c := config(3)
		c.Segment = segment
		whole := newDisk(t, c.Disk)
		_, states := play(t, c, whole, len(scene()))
		if len(states) < 12 {
			t.Fatal(len(states), "states")
		}
		for steps := range len(scene()) + 1 {
			d := newDisk(t, c.Disk)
			f, _ := play(t, c, d, steps)
			wantTorn(t, fmt.Sprint(steps, " steps, segment ", segment), c, d, f, states)
		}
		for power := range 80 {
			d := newDisk(t, c.Disk)
			d.Stop(power)
			f, _ := play(t, c, d, len(scene()))
			wantTorn(t, fmt.Sprint("power for ", power, ", segment ", segment), c, d, f, nil)
		}
	}
}

// wantTorn crashes forks of d with all ways to tear one file's unsure bytes, and looks at what is there then.
func wantTorn(t *testing.T, what string, c api.Config, d *disk.Disk, f *facts, states map[string]int) {
	t.Helper()
	keeps := [][]api.Torn{nil}
	for _, file := range d.Files() {
		for bytes := range len(file.Bytes) - file.Synced + 1 {
			keeps = append(keeps, []api.Torn{{Name: file.Name, Bytes: bytes}})
		}
	}
	for _, keep := range keeps {
		torn := d.Fork()
		if err := torn.Crash(keep); err != api.OK {
			t.Fatal("Crash:", err)
		}
		n := start(t, c, 1, torn, 0)
		f.want(t, fmt.Sprint(what, ", torn ", keep), n)
		if states == nil {
			continue
		}
		if _, is := states[state(n)]; !is {
			t.Errorf("%s, torn %v: a state that never was:\n%s", what, keep, state(n))
		}
	}
}

// A node that crashes ahead of the Flush told nobody: what it did may be gone.
func TestCrashAheadOfAFlush(t *testing.T) {
	n, d := fresh(t, 3, 1)
	call(t, n, update(1, "c", "tea", 1))
	flush(t, n)
	call(t, n, update(2, "c", "tea", 2))
	n.On(inBallot(api.MsgPrepare, 0, 1, ballot(1, 0), 0))
	n.On(chosen(0, 1, 0, noop()))
	files := d.Files()
	unsure := len(files[0].Bytes) - files[0].Synced
	seen := map[string]int{}
	for bytes := range unsure + 1 {
		torn := d.Fork()
		torn.Crash([]api.Torn{{Name: files[0].Name, Bytes: bytes}})
		m := start(t, config(3), 1, torn, 0)
		seen[fmt.Sprint(len(m.Events()), m.Promised().Round, len(m.Entries()))]++
		m.Tick(100)
		call(t, m, update(3, "c", "tea", 4)) // it goes on
		wantSame(t, "the next update", answers(flush(t, m))[0].Dot, api.Dot{Origin: 1, Seq: len(m.Events())})
	}
	if len(seen) != 4 || seen["1 0 0"] == 0 || seen["2 0 0"] == 0 || seen["2 1 0"] == 0 || seen["2 1 1"] != 1 {
		t.Error("a beginning of what was done:", seen)
	}
}
