package replica_test

import (
	"slices"
	"strings"
	"testing"

	"pannier/api"
	"pannier/codec"
	"pannier/replica"
)

// savedOf are the bytes of those events and seals, as the document tells them.
func savedOf(events []api.Event, seals []api.Seal) string {
	b := codec.List(nil, events, func(b []byte, e api.Event) []byte {
		x, _ := codec.Event(e)
		return append(b, x...)
	})
	return string(codec.List(b, seals, func(b []byte, s api.Seal) []byte {
		x, _ := codec.Seal(s)
		return append(b, x...)
	}))
}

// wantLoaded looks whether saved is loaded, and is what was saved.
func wantLoaded(t *testing.T, node int, saved string) *replica.Replica {
	t.Helper()
	r, err := replica.Load(node, saved)
	if r == nil || err != api.OK {
		t.Fatalf("Load(%d, %q): %d", node, saved, err)
	}
	if r.Save() != saved || r.Node() != node || r.Waiting() != 0 {
		t.Fatalf("Load(%d, %q): %q, of %d, %d wait", node, saved, r.Save(), r.Node(), r.Waiting())
	}
	return r
}

func wantRefused(t *testing.T, what string, node int, saved string) {
	t.Helper()
	if r, err := replica.Load(node, saved); r != nil || err != api.ErrCode {
		t.Errorf("%s: Load(%d, %q): %v, %d", what, node, saved, r, err)
	}
}

func TestSave(t *testing.T) {
	r := made(t, 1)
	if got := r.Save(); got != "\x00\x00" {
		t.Errorf("of nothing: %q", got)
	}
	update(t, r, "c", "tea", 2, false)
	if got := r.Save(); got != "\x01\x01\x01\x00\x01c\x00\x03tea\x02\x00\x00" {
		t.Errorf("of an update: %q", got)
	}
	learn(t, r, seal("t", "c", 0, 0, 1))
	update(t, r, "c", "tea", 300, true)
	take(t, r, event(0, 1), event(0, 1))
	take(t, r, event(0, 3, 2)) // it waits
	wanted := "\x03" + "\x00\x01\x00\x01c\x00\x03tea\x01\x00" + "\x01\x01\x00\x01c\x00\x03tea\x02\x00" + "\x01\x02\x02\x00\x01\x01c\x01\x03tea\xac\x02\x01" +
		"\x01" + "\x01t\x01c\x00\x02\x00\x01"
	if got := r.Save(); got != wanted {
		t.Errorf("%q, not %q", got, wanted)
	}
	if b := busy(t); b.Save() != savedOf(slices.Collect(b.All()), b.Seals()) {
		t.Errorf("%q", b.Save())
	}
}

func TestLoad(t *testing.T) {
	r := busy(t)
	loaded := wantLoaded(t, 1, r.Save())
	if !slices.Equal(loaded.Applied(), r.Applied()) || !slices.EqualFunc(loaded.Seals(), r.Seals(), sameSeal) || loaded.Epoch("c") != 1 {
		t.Error("Load:", loaded.Applied(), loaded.Seals(), loaded.Epoch("c"))
	}
	// What waited was not saved, so it may come again; and all goes on as if nothing had been.
	take(t, loaded, event(5, 3, 0, 0, 0, 0, 0, 2))
	if a, b := update(t, r, "c", "tea", 1, true), update(t, loaded, "c", "tea", 1, true); !sameEvent(a, b) {
		t.Errorf("the next update: %v, not %v", b, a)
	}
	learn(t, r, seal("x", "c", 1, 1))
	learn(t, loaded, seal("x", "c", 1, 1))
	if loaded.Save() != r.Save() || loaded.Waiting() != 1 {
		t.Error("it went on:", loaded.Applied(), loaded.Waiting())
	}
	again := wantLoaded(t, 1, r.Save())
	update(t, again, "d", "tea", 1, false)
	if again.Save() == r.Save() {
		t.Error("two that are loaded are one")
	}
}

func TestLoadOfNothing(t *testing.T) {
	for node := range api.MaxNodes {
		r := wantLoaded(t, node, "\x00\x00")
		if e := update(t, r, "c", "tea", 1, false); e.Dot != (api.Dot{Origin: node, Seq: 1}) {
			t.Error("Update:", e)
		}
		wantRefused(t, "no bytes", node, "")
		wantRefused(t, "one list", node, "\x00")
	}
	for _, node := range wrongNodes() {
		for _, saved := range []string{"\x00\x00", "", "x"} {
			if r, err := replica.Load(node, saved); r != nil || err != api.ErrArg {
				t.Errorf("Load(%d, %q): %v, %d", node, saved, r, err)
			}
		}
	}
}

// What one node saved may be another one's, if that one would have made its own events just so.
func TestLoadOfAnotherNode(t *testing.T) {
	a, b := made(t, 0), made(t, 1)
	learn(t, b, seal("t", "c", 0))
	x := update(t, a, "c", "tea", 1, false)
	take(t, b, x, x)
	y := update(t, b, "c", "tea", 1, false) // of the epoch 1
	take(t, a, y, y)
	for node := range api.MaxNodes {
		wantLoaded(t, node, b.Save())
		if node != 1 {
			wantLoaded(t, node, a.Save())
		}
	}
	wantRefused(t, "node 1 knew the seal when it made that", 1, a.Save())
}

// Bytes that are cut off, or have more behind them.
func TestCutOff(t *testing.T) {
	saved := busy(t).Save()
	for end := range len(saved) {
		wantRefused(t, "cut off", 1, saved[:end])
	}
	for _, more := range []string{"\x00", "x", "\x00\x00", saved, string(make([]byte, api.MaxRecord))} {
		wantRefused(t, "more behind", 1, saved+more)
		wantRefused(t, "more behind nothing", 1, "\x00\x00"+more)
	}
	wantRefused(t, "more ahead", 1, "\x00"+saved)
}

// Whatever byte is changed: what is loaded tells just these bytes.
func TestChangedBytes(t *testing.T) {
	saved := busy(t).Save()
	loaded := 0
	for at := range len(saved) {
		for c := range 256 {
			b := []byte(saved)
			b[at] = byte(c)
			if checkLoad(t, 1, string(b)) {
				loaded++
			}
		}
	}
	if loaded < len(saved) {
		t.Error("only", loaded, "were loaded")
	}
}

// checkLoad looks whether bytes are refused, or are what was loaded by them; and tells which.
func checkLoad(t *testing.T, node int, saved string) bool {
	t.Helper()
	r, err := replica.Load(node, saved)
	if err == api.ErrCode && r == nil {
		return false
	}
	if err != api.OK || r == nil || r.Save() != saved || r.Node() != node || r.Waiting() != 0 {
		t.Fatalf("Load(%d, %q): %v, %d", node, saved, r, err)
	}
	if _, err := r.Update("c", "tea", 1, false); err != api.OK {
		t.Fatalf("Update behind Load(%d, %q): %d", node, saved, err)
	}
	return true
}

func FuzzLoad(f *testing.F) {
	for _, s := range []string{"", "\x00\x00", "\x01\x01\x01\x00\x01c\x00\x03tea\x02\x00\x00",
		savedOf([]api.Event{event(0, 1, 0, 1), event(0, 2, 1, 1), event(1, 1), event(1, 2, 1, 1)}, []api.Seal{seal("t", "c", 0, 1), seal("t", "c", 1)})} {
		f.Add(0, s)
		f.Add(1, s)
	}
	f.Fuzz(func(t *testing.T, node int, saved string) {
		if node >= 0 && node < api.MaxNodes {
			checkLoad(t, node, saved)
		} else if r, err := replica.Load(node, saved); r != nil || err != api.ErrArg {
			t.Fatalf("Load(%d): %v, %d", node, r, err)
		}
	})
}

// Events of others that no log of that order could have applied.
func TestWrongLogs(t *testing.T) {
	odd := func(change func(e *api.Event)) api.Event {
		e := event(0, 1)
		change(&e)
		return e
	}
	for what, events := range map[string][]api.Event{
		"the second one alone":         {event(0, 2, 1)},
		"a gap":                        {event(0, 1), event(0, 3, 2)},
		"out of order":                 {event(0, 2, 1), event(0, 1)},
		"origins out of order":         {event(2, 1), event(0, 1)},
		"twice":                        {event(0, 1), event(0, 1)},
		"two of a dot":                 {event(0, 1), odd(func(e *api.Event) { e.Qty = 2 })},
		"the number 0":                 {event(0, 0)},
		"not what is ahead of it":      {event(0, 1, 1)},
		"less than what is ahead":      {event(0, 1), event(0, 2)},
		"another one that is not here": {event(0, 1, 0, 0, 1)},
		"one too many of another":      {event(0, 1, 0, 0, 2), event(2, 1)},
		"a ring":                       {event(0, 1, 0, 0, 1), event(2, 1, 1)},
		"a ring of three":              {event(0, 1, 0, 0, 1), event(2, 1, 0, 0, 0, 1), event(3, 1, 1)},
		"a ring behind others":         {event(0, 1), event(0, 2, 1, 0, 2), event(2, 1), event(2, 2, 2, 0, 1)},
	} {
		wantRefused(t, what, 1, savedOf(events, nil))
	}
	for _, events := range [][]api.Event{
		{event(0, 1), event(0, 2, 1), event(2, 1)}, {event(0, 1, 0, 0, 1), event(2, 1)}, {event(0, 1, 0, 0, 1, 1), event(2, 1, 0, 0, 0, 1), event(3, 1)},
		{odd(func(e *api.Event) { e.Epoch = 9 })}, {odd(func(e *api.Event) { e.Epoch = api.MaxSeq })},
	} {
		wantLoaded(t, 1, savedOf(events, nil))
	}
}

func TestWrongSealLists(t *testing.T) {
	for what, seals := range map[string][]api.Seal{
		"the second one alone": {seal("t", "c", 1)},
		"a gap":                {seal("t", "c", 0), seal("u", "c", 2)},
		"the first one twice":  {seal("t", "c", 0), seal("t", "c", 0)},
		"out of order":         {seal("t", "c", 1), seal("u", "c", 0)},
		"of another cart":      {seal("t", "c", 0), seal("u", "d", 1)},
		"wrong in the middle":  {seal("t", "c", 0), seal("u", "d", 1), seal("v", "c", 1)},
	} {
		wantRefused(t, what, 1, savedOf(nil, seals))
	}
	wantLoaded(t, 1, savedOf(nil, []api.Seal{seal("t", "c", 0, 9), seal("t", "d", 0), seal("t", "c", 1, 1, 1, 1, 1, 1, 1, 1)}))
}

// A node's own events have as Deps all that was applied when they were made.
func TestWrongOwnDeps(t *testing.T) {
	for what, events := range map[string][]api.Event{
		"the second one knew less than the first": {event(0, 1), event(1, 1, 1), event(1, 2, 0, 1)},
		"it knew what had waited for others":      {event(0, 1, 0, 0, 1), event(1, 1, 1), event(2, 1)},
		"it knew what waits for itself":           {event(0, 1, 0, 1), event(1, 1, 1)},
		"it knew what is not there":               {event(1, 1, 1)},
	} {
		wantRefused(t, what, 1, savedOf(events, nil))
	}
	// What another node made may have any of these, but the rings.
	wantLoaded(t, 3, savedOf([]api.Event{event(0, 1), event(1, 1, 1), event(1, 2, 0, 1)}, nil))
	wantLoaded(t, 3, savedOf([]api.Event{event(0, 1, 0, 0, 1), event(1, 1, 1), event(2, 1)}, nil))
	wantLoaded(t, 1, savedOf([]api.Event{event(0, 1), event(1, 1, 1), event(1, 2, 1, 1)}, nil))
	wantLoaded(t, 1, savedOf([]api.Event{event(0, 1, 0, 0, 1), event(1, 1, 1, 0, 1), event(2, 1)}, nil))
	wantLoaded(t, 1, savedOf([]api.Event{event(0, 1, 0, 1), event(1, 1), event(1, 2, 1, 1)}, nil))
}

// A node's own events have as Epoch how many seals of their cart were learned when they were made.
func TestWrongOwnEpochs(t *testing.T) {
	own := func(seq int, cart string, epoch int) api.Event {
		e := event(0, seq)
		if seq > 1 {
			e.Deps = []int{seq - 1}
		}
		e.Cart, e.Epoch = cart, epoch
		return e
	}
	c0, c1, d0, d1 := seal("t", "c", 0), seal("u", "c", 1), seal("v", "d", 0), seal("w", "d", 1)
	for what, x := range map[string]struct {
		events []api.Event
		seals  []api.Seal
	}{
		"a seal that is not there":           {[]api.Event{own(1, "c", 1)}, nil},
		"one of another cart":                {[]api.Event{own(1, "c", 1)}, []api.Seal{d0}},
		"one too many":                       {[]api.Event{own(1, "c", 2)}, []api.Seal{c0}},
		"it was forgotten":                   {[]api.Event{own(1, "c", 1), own(2, "c", 0)}, []api.Seal{c0}},
		"one ahead of it was forgotten":      {[]api.Event{own(1, "d", 1), own(2, "c", 0)}, []api.Seal{c0, d0}},
		"one ahead of its second":            {[]api.Event{own(1, "d", 2), own(2, "c", 0)}, []api.Seal{d0, c0, d1}},
		"one far behind tells of an old one": {[]api.Event{own(1, "c", 0), own(2, "d", 1), own(3, "d", 1), own(4, "c", 0)}, []api.Seal{c0, d0}},
	} {
		wantRefused(t, what, 0, savedOf(x.events, x.seals))
		wantLoaded(t, 1, savedOf(x.events, x.seals))
	}
	wantLoaded(t, 0, savedOf([]api.Event{own(1, "d", 1), own(2, "c", 0)}, []api.Seal{d0, c0}))
	wantLoaded(t, 0, savedOf([]api.Event{own(1, "d", 1), own(2, "c", 0), own(3, "c", 1), own(4, "d", 1)}, []api.Seal{d0, c0, d1, c1}))
	wantLoaded(t, 0, savedOf([]api.Event{own(1, "c", 0), own(2, "c", 2), own(3, "d", 0)}, []api.Seal{c0, c1, d0}))
}

// Counts of what is not there, and of more than there may be.
func TestWrongCounts(t *testing.T) {
	huge := "\xff\xff\xff\xff\xff\xff\xff\xff\xff\x01"
	for _, saved := range []string{huge, "\x00" + huge, "\x01", "\x00\x01", huge + "\x00", "\x80\x00\x00", "\x00\x80\x00", "\x80\x80\x04\x00", "\x81\x80\x04\x00",
		"\x00\xff\xff\xff\xff\x07", "\x01" + "\x01\x01\x00\x01c\x00\x03tea\x02\x02\x00", "\x01" + "\x01\x01\x00\x01C\x00\x03tea\x02\x00\x00"} {
		wantRefused(t, "a wrong count, or item", 1, saved)
	}
	one, _ := codec.Event(event(0, 1))
	wantRefused(t, "more than MaxDots", 1, "\x81\x80\x04"+strings.Repeat(string(one), api.MaxDots+1)+"\x00")
}

// A row of MaxDots events is loaded, one more is not.
func TestMostEvents(t *testing.T) {
	row := make([]api.Event, api.MaxDots+1)
	for i := range row {
		row[i] = event(0, i+1)
		if i > 0 {
			row[i].Deps = []int{i}
		}
	}
	for _, node := range []int{0, 1} {
		wantLoaded(t, node, savedOf(row[:api.MaxDots], nil))
		wantRefused(t, "more than MaxDots", node, savedOf(row, nil))
	}
}
