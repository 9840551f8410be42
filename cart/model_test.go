package cart_test

import (
	"math/rand"
	"slices"
	"strings"
	"testing"

	"pannier/api"
	"pannier/cart"
	"pannier/vv"
)

// plainStand tells what stands by the document's words alone: each event is held against each.
func plainStand(l []api.Event) []api.Event {
	var out []api.Event
	for _, e := range l {
		goes := func(f api.Event) bool {
			return !sameEvent(e, f) && f.Cart == e.Cart && f.Sku == e.Sku && f.Clears && vv.Has(f.Deps, e.Dot)
		}
		if !slices.ContainsFunc(l, goes) {
			out = append(out, e)
		}
	}
	return out
}

func hasDot(l []api.Event, d api.Dot) bool {
	return slices.ContainsFunc(l, func(e api.Event) bool { return e.Dot == d })
}

func plainLines(l []api.Event, name string) []api.Line {
	var counted []api.Event
	for _, e := range plainStand(l) {
		if e.Cart == name && !hasDot(counted, e.Dot) {
			counted = append(counted, e)
		}
	}
	var lines []api.Line
	for _, e := range counted {
		at := slices.IndexFunc(lines, func(x api.Line) bool { return x.Sku == e.Sku })
		if at < 0 {
			at = len(lines)
			lines = append(lines, api.Line{Sku: e.Sku})
		}
		lines[at].Qty += e.Qty
	}
	lines = slices.DeleteFunc(lines, func(x api.Line) bool { return x.Qty <= 0 })
	slices.SortFunc(lines, func(a, b api.Line) int { return strings.Compare(a.Sku, b.Sku) })
	return lines
}

func plainMerge(a, b []api.Event) []api.Event {
	var out []api.Event
	for _, e := range slices.Concat(a, b) {
		if !hasDot(out, e.Dot) {
			out = append(out, e)
		}
	}
	slices.SortStableFunc(out, byDot)
	return out
}

func byDot(a, b api.Event) int {
	if a.Dot.Origin != b.Dot.Origin {
		return a.Dot.Origin - b.Dot.Origin
	}
	return a.Dot.Seq - b.Dot.Seq
}

// anyEvent is of few dots, carts and articles, so that many go by another one, some also by what had seen itself.
func anyEvent(rng *rand.Rand) api.Event {
	e := adds(rng.Intn(5)-1, rng.Intn(6)-1, rng.Intn(6)-1)
	for range rng.Intn(5) {
		e.Deps = append(e.Deps, rng.Intn(6)-1)
	}
	e.Cart, e.Sku = []string{"c", "d"}[rng.Intn(2)], []string{"jam", "tea", "t"}[rng.Intn(3)]
	e.Epoch, e.Clears = rng.Intn(2), rng.Intn(3) == 0
	return e
}

func anyEvents(rng *rand.Rand) []api.Event {
	var l []api.Event
	for range rng.Intn(12) {
		l = append(l, anyEvent(rng))
	}
	for range rng.Intn(4) {
		if len(l) > 0 {
			l = append(l, l[rng.Intn(len(l))])
		}
	}
	rng.Shuffle(len(l), func(i, j int) { l[i], l[j] = l[j], l[i] })
	return l
}

// Of any events the package tells what the plain one tells.
func TestAsThePlainOne(t *testing.T) {
	rng := rand.New(rand.NewSource(1))
	for range 30000 {
		a, b := anyEvents(rng), anyEvents(rng)
		wantEvents(t, "Stand", cart.Stand(a), plainStand(a))
		wantLines(t, "Lines", cart.Lines(a, "c"), plainLines(a, "c"))
		wantLines(t, "Lines", cart.Lines(a, "d"), plainLines(a, "d"))
		wantEvents(t, "Merge", cart.Merge(a, b), plainMerge(a, b))
		v := anyEvent(rng).Deps
		wantEvents(t, "Cut", cart.Cut(a, v), slices.DeleteFunc(slices.Clone(a), func(e api.Event) bool { return !vv.Has(v, e.Dot) }))
		if t.Failed() {
			t.Fatal(a, b)
		}
	}
}

// The order of events matters not, nor that some are there twice.
func TestOrderAndDoubles(t *testing.T) {
	rng := rand.New(rand.NewSource(2))
	for range 2000 {
		l := cart.Merge(anyEvents(rng), anyEvents(rng)) // one event of a dot
		lines := [][]api.Line{cart.Lines(l, "c"), cart.Lines(l, "d")}
		for range 5 {
			more := slices.Clone(l)
			for range rng.Intn(3) * len(l) {
				more = append(more, l[rng.Intn(len(l))])
			}
			rng.Shuffle(len(more), func(i, j int) { more[i], more[j] = more[j], more[i] })
			for i, name := range []string{"c", "d"} {
				wantLines(t, "Lines", cart.Lines(more, name), lines[i])
			}
			wantEvents(t, "what stands", cart.Merge(cart.Stand(more), nil), cart.Stand(l))
			if t.Failed() {
				t.Fatal(more)
			}
		}
	}
}

// Merge is the same in either order, in any groups, and done again.
func TestMergeOfSets(t *testing.T) {
	rng := rand.New(rand.NewSource(3))
	for range 2000 {
		all := cart.Merge(slices.Concat(anyEvents(rng), anyEvents(rng), anyEvents(rng)), nil)
		part := func() []api.Event {
			l := slices.DeleteFunc(slices.Clone(all), func(api.Event) bool { return rng.Intn(2) == 0 })
			rng.Shuffle(len(l), func(i, j int) { l[i], l[j] = l[j], l[i] })
			return l
		}
		a, b, c := part(), part(), part()
		ab := cart.Merge(a, b)
		wantEvents(t, "the other way", cart.Merge(b, a), ab)
		wantEvents(t, "in groups", cart.Merge(ab, c), cart.Merge(a, cart.Merge(b, c)))
		wantEvents(t, "done again", cart.Merge(ab, b), ab)
		wantEvents(t, "with itself", cart.Merge(ab, ab), ab)
		for _, e := range ab {
			if !hasDot(a, e.Dot) && !hasDot(b, e.Dot) {
				t.Error("nobody had", e)
			}
		}
		if t.Failed() {
			t.Fatal(a, b, c)
		}
	}
	// Also where a dot has several events the groups do not matter.
	for range 2000 {
		a, b, c := anyEvents(rng), anyEvents(rng), anyEvents(rng)
		wantEvents(t, "in groups", cart.Merge(cart.Merge(a, b), c), cart.Merge(a, cart.Merge(b, c)))
	}
}

// site is an origin with what it has seen.
type site struct {
	seen   []int
	events []api.Event
}

func qtyOf(l []api.Event) int {
	return cart.Total(cart.Lines(l, "c"))
}

// Whatever came ahead: an addition adds; a removal leaves nothing of what its origin had seen, a setting just itself;
// and what was not seen stays.
func TestWhatUpdatesDo(t *testing.T) {
	for seed := range int64(200) {
		rng := rand.New(rand.NewSource(seed))
		sites := make([]site, 1+rng.Intn(5))
		var all []api.Event
		for range 60 {
			at := rng.Intn(len(sites))
			s := &sites[at]
			if other := rng.Intn(len(sites)); rng.Intn(3) == 0 {
				s.seen = vv.Merge(s.seen, sites[other].seen)
				s.events = cart.Merge(s.events, sites[other].events)
				continue
			}
			seq := vv.Of(s.seen, at) + 1
			e := adds(at, seq, rng.Intn(4), s.seen...)
			e.Clears = rng.Intn(3) == 0
			was, here := qtyOf(all), qtyOf(s.events)
			unseen := qtyOf(slices.DeleteFunc(slices.Clone(all), func(e api.Event) bool { return vv.Has(s.seen, e.Dot) }))
			s.seen, _ = vv.With(s.seen, at, seq)
			s.events, all = append(s.events, e), append(all, e)
			if e.Clears {
				here = 0
			}
			if n := qtyOf(s.events); n != here+e.Qty {
				t.Fatalf("seed %d: %v: here %d, not %d", seed, e, n, here+e.Qty)
			}
			if n := qtyOf(all); !e.Clears && n != was+e.Qty || e.Clears && (n < e.Qty || n > unseen+e.Qty) {
				t.Fatalf("seed %d: %v: %d, behind %d, of which %d were not seen", seed, e, n, was, unseen)
			}
			for _, f := range cart.Stand(all) {
				if e.Clears && f.Dot != e.Dot && vv.Has(e.Deps, f.Dot) {
					t.Fatalf("seed %d: %v leaves %v, which it had seen", seed, e, f)
				}
			}
		}
	}
}

// What a removal had not seen stays, each of it.
func TestWhatWasNotSeenStays(t *testing.T) {
	for seen0 := range 4 {
		for seen1 := range 4 {
			var l []api.Event
			left := 0
			for i := range 3 {
				l = append(l, adds(0, i+1, 1<<i), adds(1, i+1, 8<<i))
				if i >= seen0 {
					left += 1 << i
				}
				if i >= seen1 {
					left += 8 << i
				}
			}
			for _, qty := range []int{0, 100} {
				if n := qtyOf(append(slices.Clone(l), sets(2, 1, qty, seen0, seen1))); n != left+qty {
					t.Errorf("%d, having seen %d and %d: %d, not %d", qty, seen0, seen1, n, left+qty)
				}
			}
		}
	}
}

// Great sets of one article, in which all clear, take no time that grows with their square.
func TestGreatSets(t *testing.T) {
	const size = 1 << 16
	l := make([]api.Event, size)
	for i := range l {
		l[i] = sets(i%7, i/7+1, 1, i/7, i/7, i/7, i/7, i/7, i/7, i/7)
	}
	if n := len(cart.Stand(l)); n != 2 { // those of the last round, which have seen all of the rounds ahead
		t.Errorf("%d stand", n)
	}
	for i := range l {
		l[i] = sets(0, 1, i, size)
	}
	if n := len(cart.Stand(l)); n != 0 {
		t.Errorf("of others of one dot that all had seen themselves %d stand", n)
	}
	for i := range l {
		l[i] = sets(0, 1, 3, size)
	}
	wantLines(t, "one event, very often", cart.Lines(l, "c"), tea(3))
	long := make([]int, size)
	for i := range long {
		long[i] = size
	}
	l = []api.Event{sets(0, 1, 1, long...), sets(0, 1, 1, long...), sets(1, 1, 1, long...), sets(0, 1, 1, long...)}
	if n := len(cart.Stand(l)); n != 0 {
		t.Errorf("of long vectors %d stand", n)
	}
}
