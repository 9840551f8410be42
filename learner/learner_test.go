package learner_test

import (
	"math"
	"math/rand"
	"reflect"
	"slices"
	"testing"

	"pannier/api"
	"pannier/learner"
)

func noop() api.Entry {
	return api.Entry{Noop: true}
}

func entry(token string, cut ...int) api.Entry {
	return api.Entry{Seal: api.Seal{Token: token, Cart: "c", Epoch: 3, Cut: cut}}
}

// placed is an entry in a slot.
type placed struct {
	slot  int
	entry api.Entry
}

func plainEntry(e api.Entry) api.Entry {
	e.Seal.Cut = append([]int(nil), e.Seal.Cut...)
	return e
}

func sameEntry(a, b api.Entry) bool {
	return reflect.DeepEqual(plainEntry(a), plainEntry(b))
}

func choose(t *testing.T, l *learner.Learner, slot int, e api.Entry, wanted api.Errno) {
	t.Helper()
	if got := l.Choose(slot, e); got != wanted {
		t.Errorf("Choose(%d, %v): %d, not %d", slot, e, got, wanted)
	}
}

// learned is a learner that chose those one behind the other.
func learned(t *testing.T, l ...placed) *learner.Learner {
	t.Helper()
	out := learner.New()
	if out == nil {
		t.Fatal("New: nil")
	}
	for _, x := range l {
		choose(t, out, x.slot, x.entry, api.OK)
	}
	return out
}

func walk(l *learner.Learner, from int) []placed {
	var out []placed
	for slot, e := range l.From(from) {
		out = append(out, placed{slot, plainEntry(e)})
	}
	return out
}

// wantLearner looks at all that l tells, by the entries that it should have.
func wantLearner(t *testing.T, what string, l *learner.Learner, has map[int]api.Entry) {
	t.Helper()
	prefix, greatest := 0, -1
	for slot := range has {
		greatest = max(greatest, slot)
	}
	for isIn(has, prefix) {
		prefix++
	}
	var extras, missing []int
	for slot := range has {
		if slot > prefix {
			extras = append(extras, slot)
		}
	}
	slices.Sort(extras)
	for slot := 0; slot < greatest && len(missing) < api.MaxList; slot++ {
		if !isIn(has, slot) {
			missing = append(missing, slot)
		}
	}
	if l.Prefix() != prefix || l.Len() != len(has) || !slices.Equal(l.Extras(), extras) {
		t.Errorf("%s: %d, %d, %v, not %d, %d, %v", what, l.Prefix(), l.Len(), l.Extras(), prefix, len(has), extras)
	}
	for most := range len(missing) + 2 {
		if got := l.Missing(most); !slices.Equal(got, missing[:min(most, len(missing))]) {
			t.Errorf("%s: Missing(%d): %v, not of %v", what, most, got, missing)
		}
	}
	for slot := -1; slot <= greatest+2 && slot < 100; slot++ {
		wanted, is := has[slot]
		if !is {
			wanted = noop()
		}
		if got, ok := l.Get(slot); !sameEntry(got, wanted) || ok != is {
			t.Errorf("%s: Get(%d): %v, %v, not %v, %v", what, slot, got, ok, wanted, is)
		}
		var from []placed
		for at := max(slot, 0); at < prefix; at++ {
			from = append(from, placed{at, plainEntry(has[at])})
		}
		if got := walk(l, slot); !reflect.DeepEqual(got, from) {
			t.Errorf("%s: From(%d): %v, not %v", what, slot, got, from)
		}
	}
}

func isIn(has map[int]api.Entry, slot int) bool {
	_, is := has[slot]
	return is
}

func TestNew(t *testing.T) {
	wantLearner(t, "a new one", learned(t), nil)
}

func TestExample(t *testing.T) {
	l := learned(t, placed{1, entry("a")})
	if l.Prefix() != 0 || !slices.Equal(l.Extras(), []int{1}) || !slices.Equal(l.Missing(9), []int{0}) {
		t.Error("one:", l.Prefix(), l.Extras(), l.Missing(9))
	}
	choose(t, l, 0, noop(), api.OK)
	if l.Prefix() != 2 || len(l.Extras()) != 0 || len(l.Missing(9)) != 0 {
		t.Error("both:", l.Prefix(), l.Extras(), l.Missing(9))
	}
}

// Gaps that are filled one by one, from all sides.
func TestGaps(t *testing.T) {
	l, has := learned(t), map[int]api.Entry{}
	for i, slot := range []int{5, 2, 9, 0, 3, 1, 7, 10, 6, 4, 12, 8, 11} {
		e := entry("t", i+1)
		if i%3 == 0 {
			e = noop()
		}
		choose(t, l, slot, e, api.OK)
		has[slot] = e
		wantLearner(t, "a gap", l, has)
	}
	if l.Prefix() != 13 {
		t.Error("Prefix:", l.Prefix())
	}
}

func TestChooseTwice(t *testing.T) {
	e := entry("t", 1, 2)
	l := learned(t, placed{0, e}, placed{1, noop()}, placed{7, e})
	has := map[int]api.Entry{0: e, 1: noop(), 7: e}
	for _, slot := range []int{0, 7} {
		choose(t, l, slot, e, api.ErrTwice)
		choose(t, l, slot, noop(), api.ErrSlot)
		choose(t, l, slot, entry("u", 1, 2), api.ErrSlot)
		choose(t, l, slot, entry("t", 1), api.ErrSlot)
		choose(t, l, slot, entry("t", 1, 3), api.ErrSlot)
		choose(t, l, slot, entry("t"), api.ErrSlot)
		choose(t, l, slot, api.Entry{Seal: api.Seal{Token: "t", Cart: "d", Epoch: 3, Cut: []int{1, 2}}}, api.ErrSlot)
		choose(t, l, slot, api.Entry{Seal: api.Seal{Token: "t", Cart: "c", Epoch: 4, Cut: []int{1, 2}}}, api.ErrSlot)
		choose(t, l, slot, api.Entry{}, api.ErrArg)
	}
	choose(t, l, 1, noop(), api.ErrTwice)
	choose(t, l, 1, api.Entry{Noop: true, Seal: api.Seal{Cut: []int{}}}, api.ErrTwice)
	choose(t, l, 1, e, api.ErrSlot)
	wantLearner(t, "refused", l, has)
}

// An entry may stand in several slots.
func TestSameEntryInTwoSlots(t *testing.T) {
	wantLearner(t, "two", learned(t, placed{0, entry("t")}, placed{1, entry("t")}, placed{2, noop()}, placed{3, noop()}),
		map[int]api.Entry{0: entry("t"), 1: entry("t"), 2: noop(), 3: noop()})
}

func TestChooseOfWrongArguments(t *testing.T) {
	seal := func(change func(s *api.Seal)) api.Entry {
		e := entry("t", 1)
		change(&e.Seal)
		return e
	}
	l := learned(t, placed{0, noop()}, placed{2, entry("b")})
	for _, slot := range []int{math.MinInt, -2, -1, api.MaxSeq + 1, math.MaxInt - 1, math.MaxInt} {
		choose(t, l, slot, noop(), api.ErrArg)
		choose(t, l, slot, entry("t"), api.ErrArg)
		if got, is := l.Get(slot); !sameEntry(got, noop()) || is {
			t.Errorf("Get(%d): %v, %v", slot, got, is)
		}
	}
	for what, e := range map[string]api.Entry{
		"nothing":                {},
		"a Noop with a token":    {Noop: true, Seal: api.Seal{Token: "t"}},
		"a Noop with a cart":     {Noop: true, Seal: api.Seal{Cart: "c"}},
		"a Noop with an epoch":   {Noop: true, Seal: api.Seal{Epoch: 1}},
		"a Noop with a cut":      {Noop: true, Seal: api.Seal{Cut: []int{1}}},
		"a whole seal as a Noop": {Noop: true, Seal: entry("t").Seal},
		"no token":               seal(func(s *api.Seal) { s.Token = "" }),
		"a token of 33 bytes":    seal(func(s *api.Seal) { s.Token = "ttttttttttttttttttttttttttttttttt" }),
		"a wrong token":          seal(func(s *api.Seal) { s.Token = "T" }),
		"no cart":                seal(func(s *api.Seal) { s.Cart = "" }),
		"a wrong cart":           seal(func(s *api.Seal) { s.Cart = "c c" }),
		"an epoch below 0":       seal(func(s *api.Seal) { s.Epoch = -1 }),
		"an epoch above all":     seal(func(s *api.Seal) { s.Epoch = api.MaxSeq + 1 }),
		"a cut that ends with 0": seal(func(s *api.Seal) { s.Cut = []int{1, 0} }),
		"a cut below 0":          seal(func(s *api.Seal) { s.Cut = []int{-1} }),
		"a cut above all":        seal(func(s *api.Seal) { s.Cut = []int{api.MaxSeq + 1} }),
		"a cut of 8":             seal(func(s *api.Seal) { s.Cut = []int{1, 1, 1, 1, 1, 1, 1, 1} }),
	} {
		for _, slot := range []int{0, 1, 2, 5} {
			if got := l.Choose(slot, e); got != api.ErrArg {
				t.Errorf("%s: Choose(%d): %d", what, slot, got)
			}
		}
	}
	wantLearner(t, "refused", l, map[int]api.Entry{0: noop(), 2: entry("b")})
}

// The last slot there may be, with a gap that is as good as endless.
func TestLastSlot(t *testing.T) {
	l := learned(t, placed{api.MaxSeq, entry("z", api.MaxSeq)})
	choose(t, l, api.MaxSeq, entry("z", api.MaxSeq), api.ErrTwice)
	choose(t, l, api.MaxSeq, noop(), api.ErrSlot)
	if got, is := l.Get(api.MaxSeq); !sameEntry(got, entry("z", api.MaxSeq)) || !is {
		t.Error("Get:", got, is)
	}
	choose(t, l, 1, noop(), api.OK)
	choose(t, l, api.MaxSeq-1, noop(), api.OK)
	if l.Prefix() != 0 || l.Len() != 3 || !slices.Equal(l.Extras(), []int{1, api.MaxSeq - 1, api.MaxSeq}) {
		t.Error("gaps:", l.Prefix(), l.Len(), l.Extras())
	}
	if got := l.Missing(3); !slices.Equal(got, []int{0, 2, 3}) {
		t.Error("Missing(3):", got)
	}
	for _, most := range []int{api.MaxList, api.MaxList + 1, math.MaxInt} {
		if got := l.Missing(most); len(got) != api.MaxList || got[0] != 0 || got[1] != 2 || got[api.MaxList-1] != api.MaxList {
			t.Errorf("Missing(%d): %d of them", most, len(got))
		}
	}
}

func TestMissing(t *testing.T) {
	l := learned(t, placed{0, noop()}, placed{4, noop()}, placed{2, entry("a")}, placed{6, noop()})
	for most, wanted := range map[int][]int{
		math.MinInt: nil, -1: nil, 0: nil, 1: {1}, 2: {1, 3}, 3: {1, 3, 5}, 4: {1, 3, 5}, api.MaxList: {1, 3, 5}, math.MaxInt: {1, 3, 5},
	} {
		if got := l.Missing(most); !slices.Equal(got, wanted) {
			t.Errorf("Missing(%d): %v, not %v", most, got, wanted)
		}
	}
	if got := learned(t, placed{0, noop()}, placed{1, noop()}).Missing(9); len(got) != 0 {
		t.Error("without gaps:", got)
	}
	// Just MaxList are missing, and one more.
	for _, greatest := range []int{api.MaxList, api.MaxList + 1} {
		if got := learned(t, placed{greatest, noop()}).Missing(math.MaxInt); len(got) != api.MaxList || got[api.MaxList-1] != api.MaxList-1 {
			t.Errorf("below %d: %d are missing", greatest, len(got))
		}
	}
}

func TestFrom(t *testing.T) {
	l := learned(t, placed{0, entry("a", 1)}, placed{1, noop()}, placed{2, entry("c")}, placed{4, entry("e")})
	all := []placed{{0, entry("a", 1)}, {1, noop()}, {2, entry("c")}}
	for from, wanted := range map[int][]placed{
		math.MinInt: all, -1: all, 0: all, 1: all[1:], 2: all[2:], 3: nil, 4: nil, 5: nil, api.MaxSeq: nil, math.MaxInt: nil,
	} {
		if got := walk(l, from); len(got)+len(wanted) > 0 && !reflect.DeepEqual(got, wanted) {
			t.Errorf("From(%d): %v, not %v", from, got, wanted)
		}
	}
}

// A walk may be broken off, and begins anew each time.
func TestFromBrokenOff(t *testing.T) {
	l := learned(t, placed{0, entry("a")}, placed{1, noop()}, placed{2, entry("c")})
	all := l.From(0)
	for stop := range 3 {
		var seen []int
		for slot := range all {
			seen = append(seen, slot)
			if slot == stop {
				break
			}
		}
		if !slices.Equal(seen, []int{0, 1, 2}[:stop+1]) {
			t.Errorf("broken off at %d: %v", stop, seen)
		}
	}
	wantLearner(t, "behind the walks", l, map[int]api.Entry{0: entry("a"), 1: noop(), 2: entry("c")})
}

// A walk goes over the prefix as it is when it begins, though it was asked for before, and though it grows meanwhile.
func TestFromOneThatGrows(t *testing.T) {
	l := learned(t, placed{0, entry("a")}, placed{2, entry("c")})
	all := l.From(0)
	choose(t, l, 1, entry("b"), api.OK)
	var seen []int
	for slot := range all {
		choose(t, l, slot+3, noop(), api.OK)
		seen = append(seen, slot)
	}
	if !slices.Equal(seen, []int{0, 1, 2}) || l.Prefix() != 6 {
		t.Error("seen:", seen, l.Prefix())
	}
	if got := walk(l, 5); !reflect.DeepEqual(got, []placed{{5, noop()}}) {
		t.Error("From(5):", got)
	}
	// Two walks, one within the other.
	pairs := 0
	for range all {
		for range all {
			pairs++
		}
	}
	if pairs != 36 {
		t.Error("pairs:", pairs)
	}
}

// MaxDots entries are as many as there may be: others are refused, the same ones known.
func TestFull(t *testing.T) {
	l := learner.New()
	for i := range api.MaxDots {
		slot := (i*4099 + 1) % api.MaxDots // all slots, in no order
		if err := l.Choose(slot, entry("t", slot+1)); err != api.OK {
			t.Fatalf("Choose(%d), the %dth: %d", slot, i, err)
		}
	}
	wantFull := func(l *learner.Learner) {
		t.Helper()
		if l.Prefix() != api.MaxDots || l.Len() != api.MaxDots || len(l.Extras()) != 0 || len(l.Missing(9)) != 0 {
			t.Error("full:", l.Prefix(), l.Len(), l.Extras(), l.Missing(9))
		}
		count := 0
		for slot, e := range l.From(0) {
			if slot != count || !sameEntry(e, entry("t", slot+1)) {
				t.Fatalf("the slot %d: %d, %v", count, slot, e)
			}
			count++
		}
		if count != api.MaxDots {
			t.Error("walked over:", count)
		}
	}
	wantFull(l)
	for _, slot := range []int{api.MaxDots, api.MaxDots + 1, api.MaxSeq} {
		choose(t, l, slot, noop(), api.ErrFull)
		choose(t, l, slot, api.Entry{}, api.ErrArg)
		if _, is := l.Get(slot); is {
			t.Errorf("Get(%d)", slot)
		}
	}
	choose(t, l, api.MaxSeq+1, noop(), api.ErrArg)
	choose(t, l, 77, entry("t", 78), api.ErrTwice)
	choose(t, l, 77, noop(), api.ErrSlot)
	wantFull(l)
	wantFull(l.Fork())
}

// Full of entries beyond a gap: the gap stays, since there is no room.
func TestFullOfExtras(t *testing.T) {
	l := learner.New()
	for i := range api.MaxDots {
		if err := l.Choose(2*(api.MaxDots-i), noop()); err != api.OK {
			t.Fatalf("Choose: %d", err)
		}
	}
	choose(t, l, 0, noop(), api.ErrFull)
	choose(t, l, 3, noop(), api.ErrFull)
	choose(t, l, 2, noop(), api.ErrTwice)
	extras, missing := l.Extras(), l.Missing(math.MaxInt)
	if l.Prefix() != 0 || l.Len() != api.MaxDots || len(extras) != api.MaxDots || len(missing) != api.MaxList {
		t.Fatal("full:", l.Prefix(), l.Len(), len(extras), len(missing))
	}
	for i, slot := range extras {
		if slot != 2*i+2 {
			t.Fatalf("the extra %d: %d", i, slot)
		}
	}
	for i, slot := range missing {
		if slot != max(0, 2*i-1) {
			t.Fatalf("missing %d: %d", i, slot)
		}
	}
}

func TestFork(t *testing.T) {
	l := learned(t, placed{0, entry("a", 1)}, placed{2, noop()})
	other := l.Fork()
	third := other.Fork()
	choose(t, other, 1, entry("b"), api.OK)
	choose(t, l, 1, noop(), api.OK)
	choose(t, l, 5, entry("f"), api.OK)
	choose(t, third, 9, noop(), api.OK)
	wantLearner(t, "the first", l, map[int]api.Entry{0: entry("a", 1), 1: noop(), 2: noop(), 5: entry("f")})
	wantLearner(t, "its fork", other, map[int]api.Entry{0: entry("a", 1), 1: entry("b"), 2: noop()})
	wantLearner(t, "the fork's fork", third, map[int]api.Entry{0: entry("a", 1), 2: noop(), 9: noop()})
}

// A learner that no call made is as a nil one.
func TestNilLearner(t *testing.T) {
	for _, l := range []*learner.Learner{nil, {}} {
		for _, slot := range []int{-1, 0, 5, api.MaxSeq} {
			choose(t, l, slot, noop(), api.ErrClosed)
			choose(t, l, slot, api.Entry{}, api.ErrClosed)
		}
		wantLearner(t, "nil", l, nil)
		if got, is := l.Get(0); !sameEntry(got, noop()) || is {
			t.Error("Get:", got, is)
		}
		if l.From(0) == nil || len(walk(l, -1))+len(walk(l, 0)) != 0 || l.Missing(9) != nil || l.Fork() != nil {
			t.Error("From, Missing, Fork")
		}
	}
}

func spoil(e api.Entry) {
	for i := range e.Seal.Cut {
		e.Seal.Cut[i] = 99
	}
	_ = append(e.Seal.Cut, 99)
}

// Nothing that is handed in is kept or changed, and what is answered is new each time.
func TestNothingIsShared(t *testing.T) {
	room := []int{1, 2, 3}
	e := entry("a")
	e.Seal.Cut = room[:2]
	l := learned(t, placed{0, e}, placed{4, noop()})
	choose(t, l, 0, e, api.ErrTwice)
	if !slices.Equal(room, []int{1, 2, 3}) {
		t.Error("what was handed in was changed:", room)
	}
	spoil(e)
	has := map[int]api.Entry{0: entry("a", 1, 2), 4: noop()}
	wantLearner(t, "what was handed in was changed", l, has)
	fork := l.Fork()
	first, _ := l.Get(0)
	second, _ := l.Get(0)
	spoil(first)
	for range 2 {
		for _, x := range l.From(0) {
			if !sameEntry(x, entry("a", 1, 2)) {
				t.Error("From:", x)
			}
			spoil(x)
		}
	}
	for _, list := range [][]int{l.Extras(), l.Missing(9)} {
		list[0] = 99
		_ = append(list, 99)
	}
	if !sameEntry(second, entry("a", 1, 2)) {
		t.Error("Get:", second)
	}
	wantLearner(t, "what was told was changed", l, has)
	wantLearner(t, "and of the fork", fork, has)
}

// P18.3 and P18.4: in whatever order entries are chosen, with refusals between, it comes to the same, and on
// the way the prefix never falls nor changes.
func TestInWhateverOrder(t *testing.T) {
	for seed := range int64(300) {
		rng := rand.New(rand.NewSource(seed))
		has := map[int]api.Entry{}
		for range rng.Intn(20) {
			slot := rng.Intn(14)
			has[slot] = entry("t", slot+1)
			if rng.Intn(3) == 0 {
				has[slot] = noop()
			}
		}
		var order []int
		for slot := range has {
			order = append(order, slot)
		}
		slices.Sort(order)
		for range 3 {
			rng.Shuffle(len(order), func(i, k int) { order[i], order[k] = order[k], order[i] })
			wantLearner(t, "in some order", inOrder(t, rng, order, has), has)
		}
		if t.Failed() {
			t.Fatalf("seed %d", seed)
		}
	}
}

func inOrder(t *testing.T, rng *rand.Rand, order []int, has map[int]api.Entry) *learner.Learner {
	t.Helper()
	l, so := learner.New(), map[int]api.Entry{}
	for i, slot := range order {
		before := walk(l, 0)
		choose(t, l, slot, has[slot], api.OK)
		so[slot] = has[slot]
		after := walk(l, 0)
		if len(after) < len(before) || len(before) > 0 && !reflect.DeepEqual(after[:len(before)], before) {
			t.Errorf("the prefix was %v, and is %v", before, after)
		}
		wantLearner(t, "on the way", l, so)
		again := order[rng.Intn(i+1)]
		choose(t, l, again, has[again], api.ErrTwice)
		choose(t, l, again, entry("other"), api.ErrSlot)
		if rng.Intn(4) == 0 {
			other := l
			l = l.Fork()
			other.Choose(rng.Intn(20), entry("elsewhere"))
		}
	}
	return l
}
