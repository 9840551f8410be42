package dots_test

import (
	"math"
	"slices"
	"testing"

	"pannier/api"
	"pannier/dots"
)

// pairs are dots, each an origin and a number.
func pairs(numbers ...int) []api.Dot {
	var l []api.Dot
	for pair := range slices.Chunk(numbers, 2) {
		l = append(l, api.Dot{Origin: pair[0], Seq: pair[1]})
	}
	return l
}

// value is what the tests put with a dot.
func value(d api.Dot) int {
	return 1000*d.Origin + d.Seq + 7
}

// setOf has those dots, added in this order.
func setOf(t *testing.T, l ...api.Dot) *dots.Set[int] {
	t.Helper()
	s := dots.New[int]()
	add(t, s, l...)
	return s
}

func add(t *testing.T, s *dots.Set[int], l ...api.Dot) {
	t.Helper()
	for _, d := range l {
		if err := s.Add(d, value(d)); err != api.OK {
			t.Fatalf("Add(%v): %d", d, err)
		}
	}
}

// wantSet looks whether s has just those dots, with their values, and that vector and those extras.
func wantSet(t *testing.T, s *dots.Set[int], vector []int, extras []api.Dot, all []api.Dot) {
	t.Helper()
	if v := s.Vector(); !slices.Equal(v, vector) {
		t.Errorf("Vector: %v, not %v", v, vector)
	}
	if l := s.Extras(); !slices.Equal(l, extras) {
		t.Errorf("Extras: %v, not %v", l, extras)
	}
	if n := s.Len(); n != len(all) {
		t.Errorf("Len: %d, not %d", n, len(all))
	}
	wantItems(t, "All", s.All(), all)
	for _, d := range all {
		if x, has := s.Get(d); x != value(d) || !has {
			t.Errorf("Get(%v): %d, %v", d, x, has)
		}
	}
}

func TestNew(t *testing.T) {
	s := dots.New[int]()
	wantSet(t, s, nil, nil, nil)
	if x, has := s.Get(api.Dot{Origin: 0, Seq: 1}); x != 0 || has {
		t.Error("Get:", x, has)
	}
	wantItems(t, "Upto", s.Upto([]int{5, 5}), nil)
	if l := s.Missing([]int{1, 0, 2}); !slices.Equal(l, pairs(0, 1, 2, 1, 2, 2)) {
		t.Error("Missing:", l)
	}
	if s == dots.New[int]() {
		t.Error("New answers one set twice")
	}
}

func TestExample(t *testing.T) {
	s := setOf(t, pairs(0, 1, 0, 3, 1, 1)...)
	wantSet(t, s, []int{1, 1}, pairs(0, 3), pairs(0, 1, 0, 3, 1, 1))
	add(t, s, api.Dot{Origin: 0, Seq: 2})
	wantSet(t, s, []int{3, 1}, nil, pairs(0, 1, 0, 2, 0, 3, 1, 1))
}

func TestGaps(t *testing.T) {
	s := setOf(t, pairs(2, 5, 2, 3, 2, 4, 0, 2)...)
	wantSet(t, s, nil, pairs(0, 2, 2, 3, 2, 4, 2, 5), pairs(0, 2, 2, 3, 2, 4, 2, 5))
	add(t, s, pairs(2, 1)...)
	wantSet(t, s, []int{0, 0, 1}, pairs(0, 2, 2, 3, 2, 4, 2, 5), pairs(0, 2, 2, 1, 2, 3, 2, 4, 2, 5))
	add(t, s, pairs(2, 7, 2, 2)...)
	wantSet(t, s, []int{0, 0, 5}, pairs(0, 2, 2, 7), pairs(0, 2, 2, 1, 2, 2, 2, 3, 2, 4, 2, 5, 2, 7))
	add(t, s, pairs(0, 1, 2, 6)...)
	wantSet(t, s, []int{2, 0, 7}, nil, pairs(0, 1, 0, 2, 2, 1, 2, 2, 2, 3, 2, 4, 2, 5, 2, 6, 2, 7))
}

// The first and the last dots that may be are taken.
func TestOutermostDots(t *testing.T) {
	l := pairs(0, 1, 0, api.MaxSeq, 6, 1, 6, api.MaxSeq-1, 6, api.MaxSeq)
	s := setOf(t, l...)
	wantSet(t, s, []int{1, 0, 0, 0, 0, 0, 1}, pairs(0, api.MaxSeq, 6, api.MaxSeq-1, 6, api.MaxSeq), l)
	wantItems(t, "Upto", s.Upto([]int{api.MaxSeq - 1, 9, 9, 9, 9, 9, api.MaxSeq - 1}), pairs(0, 1, 6, 1, 6, api.MaxSeq-1))
}

// wrongDots are such that may not be.
func wrongDots() []api.Dot {
	return pairs(-1, 1, 7, 1, 0, 0, 0, -1, 6, 0, 0, api.MaxSeq+1, 6, api.MaxSeq+1, 8, 0, -1, 0,
		math.MinInt, 1, math.MaxInt, 1, 0, math.MinInt, 0, math.MaxInt, math.MaxInt, math.MaxInt)
}

func TestWrongDots(t *testing.T) {
	s := setOf(t, pairs(0, 1, 6, 2)...)
	for _, d := range wrongDots() {
		if err := s.Add(d, 5); err != api.ErrArg {
			t.Errorf("Add(%v): %d", d, err)
		}
		if x, has := s.Get(d); x != 0 || has {
			t.Errorf("Get(%v): %d, %v", d, x, has)
		}
	}
	wantSet(t, s, []int{1}, pairs(6, 2), pairs(0, 1, 6, 2))
}

// A dot that is there, within the vector or beyond a gap, keeps its value.
func TestTwice(t *testing.T) {
	l := pairs(0, 1, 0, 2, 0, 4, 3, 9)
	s := setOf(t, l...)
	for _, d := range l {
		if err := s.Add(d, -5); err != api.ErrTwice {
			t.Errorf("Add(%v): %d", d, err)
		}
	}
	wantSet(t, s, []int{2}, pairs(0, 4, 3, 9), l)
	add(t, s, pairs(0, 3)...)
	if err := s.Add(api.Dot{Origin: 0, Seq: 4}, -5); err != api.ErrTwice {
		t.Error("Add of what was an extra:", err)
	}
	wantSet(t, s, []int{4}, pairs(3, 9), pairs(0, 1, 0, 2, 0, 3, 0, 4, 3, 9))
}

// A value that is the zero value is there all the same; what is not there has the zero value.
func TestZeroValues(t *testing.T) {
	s := dots.New[*string]()
	for _, d := range pairs(1, 1, 1, 3) {
		if err := s.Add(d, nil); err != api.OK {
			t.Error(err)
		}
		if x, has := s.Get(d); x != nil || !has {
			t.Errorf("Get(%v): %v, %v", d, x, has)
		}
		if err := s.Add(d, new(string)); err != api.ErrTwice {
			t.Errorf("Add(%v): %d", d, err)
		}
	}
	for _, d := range pairs(1, 2, 1, 4, 0, 1, 2, 1) {
		if x, has := s.Get(d); x != nil || has {
			t.Errorf("Get(%v): %v, %v", d, x, has)
		}
	}
}

// Values of all kinds of types are kept as they are.
func TestTypes(t *testing.T) {
	wantKept(t, "a text", "another")
	wantKept(t, 1.5, math.Inf(1))
	wantKept(t, struct{}{}, struct{}{})
	wantKept(t, [2]string{"a", "b"}, [2]string{"c"})
	wantKept[any](t, 5, nil)
	wantKept(t, true, false)
	lists := dots.New[[]int]()
	lists.Add(api.Dot{Origin: 0, Seq: 1}, []int{1, 2})
	if x, has := lists.Get(api.Dot{Origin: 0, Seq: 1}); !slices.Equal(x, []int{1, 2}) || !has {
		t.Error("a list:", x, has)
	}
	calls := dots.New[func() int]()
	calls.Add(api.Dot{Origin: 0, Seq: 2}, func() int { return 9 })
	if f, has := calls.Get(api.Dot{Origin: 0, Seq: 2}); !has || f() != 9 {
		t.Error("a function")
	}
}

func wantKept[T comparable](t *testing.T, in, beyond T) {
	t.Helper()
	s := dots.New[T]()
	s.Add(api.Dot{Origin: 0, Seq: 1}, in)
	s.Add(api.Dot{Origin: 0, Seq: 3}, beyond)
	var got []T
	for _, x := range s.Fork().All() {
		got = append(got, x)
	}
	if !slices.Equal(got, []T{in, beyond}) {
		t.Errorf("%v, not %v, %v", got, in, beyond)
	}
}

// A set takes MaxDots dots, those of all origins and beyond gaps together, and then none any more.
func TestFull(t *testing.T) {
	shapes := []func(i int) api.Dot{
		func(i int) api.Dot { return api.Dot{Origin: 3, Seq: i + 1} },
		func(i int) api.Dot { return api.Dot{Origin: i % 7, Seq: i/7 + 1} },
		func(i int) api.Dot { return api.Dot{Origin: i % 2, Seq: api.MaxSeq - i} },
		func(i int) api.Dot { return api.Dot{Origin: i % 3, Seq: 1 + i/3 + i/3*(i%3)} },
	}
	for at, dot := range shapes {
		s := dots.New[int]()
		for i := range api.MaxDots {
			if err := s.Add(dot(i), value(dot(i))); err != api.OK {
				t.Fatalf("shape %d: dot %d: %d", at, i, err)
			}
		}
		fork := s.Fork()
		for _, full := range []*dots.Set[int]{s, fork} {
			wantFull(t, full, dot(0), dot(api.MaxDots-1))
		}
		count := 0
		for d, x := range s.All() {
			if x != value(d) {
				t.Fatalf("shape %d: %v has %d", at, d, x)
			}
			count++
		}
		if count != api.MaxDots {
			t.Errorf("shape %d: All goes over %d", at, count)
		}
	}
}

// wantFull looks whether s, which has first and last, takes no further dot, and tells other errors first.
func wantFull(t *testing.T, s *dots.Set[int], first, last api.Dot) {
	t.Helper()
	vector, extras := s.Vector(), s.Extras()
	for _, d := range wrongDots() {
		if err := s.Add(d, 5); err != api.ErrArg {
			t.Errorf("Add(%v): %d", d, err)
		}
	}
	for _, d := range []api.Dot{first, last} {
		if err := s.Add(d, 5); err != api.ErrTwice {
			t.Errorf("Add(%v): %d", d, err)
		}
	}
	for _, d := range pairs(6, api.MaxDots, 6, api.MaxSeq/2, 5, api.MaxSeq/2) {
		if err := s.Add(d, 5); err != api.ErrFull {
			t.Errorf("Add(%v): %d", d, err)
		}
		if x, has := s.Get(d); x != 0 || has {
			t.Errorf("Get(%v): %d, %v", d, x, has)
		}
	}
	if s.Len() != api.MaxDots || !slices.Equal(s.Vector(), vector) || !slices.Equal(s.Extras(), extras) {
		t.Error("a refused dot changed the set")
	}
}

// A Fork goes its own way, and so does what it came from.
func TestFork(t *testing.T) {
	first := pairs(0, 1, 0, 2, 0, 4, 1, 2)
	s := setOf(t, first...)
	fork := s.Fork()
	wantSet(t, fork, []int{2}, pairs(0, 4, 1, 2), first)
	fork.Add(api.Dot{Origin: 0, Seq: 3}, value(api.Dot{Origin: 0, Seq: 3}))
	wantSet(t, s, []int{2}, pairs(0, 4, 1, 2), first)
	wantSet(t, fork, []int{4}, pairs(1, 2), pairs(0, 1, 0, 2, 0, 3, 0, 4, 1, 2))
	if err := s.Add(api.Dot{Origin: 0, Seq: 3}, -3); err != api.OK {
		t.Error("Add behind a Fork:", err)
	}
	if x, _ := fork.Get(api.Dot{Origin: 0, Seq: 3}); x != value(api.Dot{Origin: 0, Seq: 3}) {
		t.Error("the Fork has what was added elsewhere:", x)
	}
	if x, _ := s.Get(api.Dot{Origin: 0, Seq: 3}); x != -3 {
		t.Error("what it came from has what was added to the Fork:", x)
	}
	add(t, s, pairs(1, 1, 5, 5)...)
	wantSet(t, fork, []int{4}, pairs(1, 2), pairs(0, 1, 0, 2, 0, 3, 0, 4, 1, 2))
	empty := dots.New[int]()
	other := empty.Fork()
	add(t, empty, pairs(0, 1)...)
	wantSet(t, other, nil, nil, nil)
	add(t, other, pairs(0, 2)...)
	wantSet(t, empty, []int{1}, nil, pairs(0, 1))
}

// Of many Forks, one behind the other, each one keeps what was added to it alone.
func TestForksOfForks(t *testing.T) {
	var sets []*dots.Set[int]
	s := dots.New[int]()
	for seq := 1; seq <= 40; seq++ {
		sets = append(sets, s)
		s = s.Fork()
		for i, old := range sets {
			if err := old.Add(api.Dot{Origin: 0, Seq: seq}, 1000*i+seq); err != api.OK {
				t.Fatal(err)
			}
		}
		s.Add(api.Dot{Origin: 0, Seq: seq}, -seq)
	}
	for i, old := range sets {
		for d, x := range old.All() {
			if wanted := 1000*i + d.Seq; d.Seq > i && x != wanted || d.Seq <= i && x != -d.Seq {
				t.Fatalf("set %d has %d at %v", i, x, d)
			}
		}
	}
}

// Of a set that no call made.
func TestNil(t *testing.T) {
	for _, s := range []*dots.Set[string]{nil, {}} {
		for _, d := range append(wrongDots(), pairs(0, 1, 6, 5)...) {
			if err := s.Add(d, "x"); err != api.ErrClosed {
				t.Errorf("Add(%v): %d", d, err)
			}
			if x, has := s.Get(d); x != "" || has {
				t.Errorf("Get(%v): %q, %v", d, x, has)
			}
		}
		if s.Vector() != nil || s.Extras() != nil || s.Missing([]int{3, 4}) != nil || s.Len() != 0 || s.Fork() != nil {
			t.Error("of a nil set:", s.Vector(), s.Extras(), s.Missing([]int{3, 4}), s.Len(), s.Fork())
		}
		for d, x := range s.All() {
			t.Error("All goes over", d, x)
		}
		for d, x := range s.Upto([]int{9, 9}) {
			t.Error("Upto goes over", d, x)
		}
	}
}

// What is answered is new memory.
func TestAnswersAreNewMemory(t *testing.T) {
	s := setOf(t, pairs(0, 1, 1, 1, 1, 3, 2, 2)...)
	for range 2 {
		v, extras, missing := s.Vector(), s.Extras(), s.Missing([]int{3, 3, 3})
		if !slices.Equal(v, []int{1, 1}) || !slices.Equal(extras, pairs(1, 3, 2, 2)) || !slices.Equal(missing, pairs(0, 2, 0, 3, 1, 2, 2, 1, 2, 3)) {
			t.Error(v, extras, missing)
		}
		for _, n := range v[:cap(v)][len(v):] {
			if n != 0 {
				t.Error("Vector has something in its spare room:", n)
			}
		}
		for _, d := range append(extras[:cap(extras)][len(extras):], missing[:cap(missing)][len(missing):]...) {
			if d != (api.Dot{}) {
				t.Error("something in spare room:", d)
			}
		}
		clear(v[:cap(v)])
		clear(extras[:cap(extras)])
		clear(missing[:cap(missing)])
	}
}
