package oplog_test

import (
	"math/rand"
	"slices"
	"testing"

	"pannier/api"
	"pannier/oplog"
	"pannier/vv"
)

// plainLog is two lists of events, told of by the document's words alone.
type plainLog struct {
	applied, waiting []api.Event
}

func (p *plainLog) vector() []int {
	v := make([]int, api.MaxNodes)
	for _, e := range p.applied {
		v[e.Dot.Origin]++
	}
	return vv.Plain(v)
}

func (p *plainLog) ready(e api.Event) bool {
	v := p.vector()
	return e.Dot.Seq == vv.Of(v, e.Dot.Origin)+1 && vv.Below(e.Deps, v)
}

func byDot(a, b api.Event) int {
	if a.Dot.Origin != b.Dot.Origin {
		return a.Dot.Origin - b.Dot.Origin
	}
	return a.Dot.Seq - b.Dot.Seq
}

func has(l []api.Event, d api.Dot) bool {
	return slices.ContainsFunc(l, func(e api.Event) bool { return e.Dot == d })
}

func dotsOf(l []api.Event) []api.Dot {
	var dots []api.Dot
	for _, e := range slices.SortedFunc(slices.Values(l), byDot) {
		dots = append(dots, e.Dot)
	}
	return dots
}

func (p *plainLog) put(e api.Event) ([]api.Event, api.Errno) {
	if !oplog.May(e) {
		return nil, api.ErrEvent
	}
	if has(p.applied, e.Dot) || has(p.waiting, e.Dot) {
		return nil, api.ErrTwice
	}
	p.waiting = append(p.waiting, e)
	var out []api.Event
	if !p.ready(e) {
		return nil, api.OK
	}
	for next := e; ; {
		p.waiting = slices.DeleteFunc(slices.Clone(p.waiting), func(w api.Event) bool { return w.Dot == next.Dot })
		p.applied = append(p.applied, next)
		out = append(out, next)
		slices.SortFunc(p.waiting, byDot)
		at := slices.IndexFunc(p.waiting, p.ready)
		if at < 0 {
			return out, api.OK
		}
		next = p.waiting[at]
	}
}

// history is what some origins make, each event behind some of what was made ahead of it.
func history(rng *rand.Rand, origins, events int) []api.Event {
	var l []api.Event
	seen := make([][]int, origins)
	for range events {
		origin := rng.Intn(origins)
		if other := rng.Intn(origins); rng.Intn(3) > 0 {
			seen[origin] = vv.Merge(seen[origin], seen[other])
		}
		e := event(origin, vv.Of(seen[origin], origin)+1, slices.Clone(seen[origin])...)
		seen[origin], _ = vv.With(seen[origin], origin, e.Dot.Seq)
		l = append(l, e)
	}
	return l
}

// wantClosed looks whether with each applied event all that it had seen is applied.
func wantClosed(t *testing.T, l *oplog.Log) {
	t.Helper()
	v, count := l.Applied(), 0
	for e := range l.All() {
		count++
		if !vv.Below(e.Deps, v) {
			t.Errorf("%v is applied, but of %v just %v", e.Dot, e.Deps, v)
		}
		for d := range vv.Dots(e.Deps) {
			if _, is := l.Get(d); !is {
				t.Errorf("%v is applied, %v is not", e.Dot, d)
			}
		}
	}
	if count != vv.Count(v) {
		t.Errorf("All goes over %d, applied are %v", count, v)
	}
}

// Whatever comes, one behind the other, a log tells what the plain one tells, and is closed.
func TestAsThePlainOne(t *testing.T) {
	for seed := range int64(150) {
		rng := rand.New(rand.NewSource(seed))
		all := history(rng, 1+rng.Intn(7), 1+rng.Intn(40))
		l, p := oplog.New(), &plainLog{}
		for range 2 * len(all) {
			e := all[rng.Intn(len(all))]
			if rng.Intn(15) == 0 {
				e.Deps = append(slices.Clone(e.Deps), rng.Intn(2))
			}
			got, err := l.Put(e)
			wanted, wantedErr := p.put(e)
			if err != wantedErr {
				t.Fatalf("seed %d: Put(%v): %d, not %d", seed, e, err, wantedErr)
			}
			wantEvents(t, "Put", got, wanted)
			sorted := slices.SortedFunc(slices.Values(p.applied), byDot)
			wantLog(t, l, p.vector(), sorted, dotsOf(p.waiting))
			wantClosed(t, l)
			v, most := all[rng.Intn(len(all))].Deps, rng.Intn(len(all)+2)-1
			after := slices.DeleteFunc(sorted, func(e api.Event) bool { return vv.Has(v, e.Dot) })
			wantEvents(t, "After", l.After(v, most), after[:min(max(most, 0), len(after))])
			if rng.Intn(10) == 0 {
				old := l
				l = l.Fork()
				old.Put(all[rng.Intn(len(all))])
			}
			if t.Failed() {
				t.Fatalf("seed %d", seed)
			}
		}
	}
}

// Whatever the order in which events come, the same is applied, and nothing waits.
func TestInAnyOrder(t *testing.T) {
	for seed := range int64(60) {
		rng := rand.New(rand.NewSource(seed))
		all := history(rng, 1+rng.Intn(7), 80)
		sorted := slices.SortedFunc(slices.Values(all), byDot)
		for range 10 {
			rng.Shuffle(len(all), func(i, j int) { all[i], all[j] = all[j], all[i] })
			l, told := oplog.New(), []api.Event(nil)
			for _, e := range all {
				got, err := l.Put(e)
				if err != api.OK {
					t.Fatalf("seed %d: Put(%v): %d", seed, e, err)
				}
				told = append(told, got...)
			}
			wantEvents(t, "All", slices.Collect(l.All()), sorted)
			wantEvents(t, "what was told as applied", slices.SortedFunc(slices.Values(told), byDot), sorted)
			if w := l.Waiting(); len(w) != 0 {
				t.Errorf("Waiting: %v", w)
			}
			if t.Failed() {
				t.Fatalf("seed %d", seed)
			}
		}
	}
}

// All orders of a few events, some of which never come: nothing waits that could be applied.
func TestEachOrder(t *testing.T) {
	all := []api.Event{event(0, 1), event(0, 2, 1, 1), event(1, 1), event(1, 2, 1, 1), event(2, 1, 2, 2), event(3, 1, 2, 0, 0, 0, 1)}
	orders := 0
	for order := range permutations(all) {
		orders++
		l := oplog.New()
		for _, e := range order {
			if _, err := l.Put(e); err != api.OK {
				t.Fatal(order, err)
			}
		}
		wantLog(t, l, []int{2, 2, 1}, all[:5], pairs(3, 1))
		wantClosed(t, l)
		if t.Failed() {
			t.Fatal(order)
		}
	}
	if orders != 720 {
		t.Fatal(orders)
	}
}

// permutations goes over all orders of l.
func permutations(l []api.Event) func(yield func([]api.Event) bool) {
	return func(yield func([]api.Event) bool) {
		var put func(ahead, left []api.Event) bool
		put = func(ahead, left []api.Event) bool {
			if len(left) == 0 {
				return yield(ahead)
			}
			for i, e := range left {
				rest := slices.Concat(left[:i], left[i+1:])
				if !put(append(slices.Clone(ahead), e), rest) {
					return false
				}
			}
			return true
		}
		put(nil, l)
	}
}
