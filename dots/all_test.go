package dots_test

import (
	"iter"
	"math"
	"slices"
	"testing"

	"pannier/api"
	"pannier/dots"
)

// collect answers the dots that items goes over; each must have its value.
func collect(t *testing.T, what string, items iter.Seq2[api.Dot, int]) []api.Dot {
	t.Helper()
	var got []api.Dot
	for d, x := range items {
		got = append(got, d)
		if x != value(d) {
			t.Errorf("%s: %v has %d", what, d, x)
		}
	}
	return got
}

// wantItems looks whether items goes over those dots with their values, each time anew.
func wantItems(t *testing.T, what string, items iter.Seq2[api.Dot, int], wanted []api.Dot) {
	t.Helper()
	for range 2 {
		if got := collect(t, what, items); !slices.Equal(got, wanted) {
			t.Errorf("%s: %v, not %v", what, got, wanted)
		}
	}
}

// roomy is v with room behind its end, in which something stands.
func roomy(v ...int) []int {
	return append(slices.Clone(v), 77, 78, 79)[:len(v)]
}

// wantUnchanged looks whether an argument that roomy made is as it was, with its room.
func wantUnchanged(t *testing.T, what string, v []int, was ...int) {
	t.Helper()
	if whole := v[:len(was)+3]; !slices.Equal(whole, append(slices.Clone(was), 77, 78, 79)) {
		t.Errorf("%s changed its argument: %v", what, whole)
	}
}

func TestUptoAndMissing(t *testing.T) {
	s := setOf(t, pairs(1, 1, 0, 3, 0, 1, 0, 2, 0, 5, 4, 2, 6, 9)...)
	all := pairs(0, 1, 0, 2, 0, 3, 0, 5, 1, 1, 4, 2, 6, 9)
	most := math.MaxInt
	tests := []struct {
		v             []int
		upto, missing []api.Dot
	}{
		{nil, nil, nil},
		{[]int{0, 0}, nil, nil},
		{[]int{2}, pairs(0, 1, 0, 2), nil},
		{[]int{4}, pairs(0, 1, 0, 2, 0, 3), pairs(0, 4)},
		{[]int{5}, pairs(0, 1, 0, 2, 0, 3, 0, 5), pairs(0, 4)},
		{[]int{6, 1}, pairs(0, 1, 0, 2, 0, 3, 0, 5, 1, 1), pairs(0, 4, 0, 6)},
		{[]int{0, 3, 1}, pairs(1, 1), pairs(1, 2, 1, 3, 2, 1)},
		{[]int{0, 0, 0, 0, 1}, nil, pairs(4, 1)},
		{[]int{0, 0, 0, 0, 2}, pairs(4, 2), pairs(4, 1)},
		{[]int{-1, -9, math.MinInt, 2}, nil, pairs(3, 1, 3, 2)},
		{[]int{3, -1, 0, 0, 3, -1, 2}, pairs(0, 1, 0, 2, 0, 3, 4, 2), pairs(4, 1, 4, 3, 6, 1, 6, 2)},
		{[]int{1, 0, 0, 0, 0, 0, 0, 2, 1}, pairs(0, 1), pairs(7, 1, 7, 2, 8, 1)},
	}
	for _, k := range tests {
		v := roomy(k.v...)
		wantItems(t, "Upto", s.Upto(v), k.upto)
		if got := s.Missing(v); !slices.Equal(got, k.missing) {
			t.Errorf("Missing(%v): %v, not %v", k.v, got, k.missing)
		}
		wantUnchanged(t, "Upto, Missing", v, k.v...)
	}
	wantItems(t, "Upto", s.Upto([]int{most, most, most, most, most, most, most, most}), all)
	wantItems(t, "Upto", s.Upto([]int{3, 0, 0, 0, most}), pairs(0, 1, 0, 2, 0, 3, 4, 2))
}

// Of what is missing the first MaxList are told, whatever numbers v has.
func TestMissingIsCut(t *testing.T) {
	most := math.MaxInt
	for _, v := range [][]int{
		{api.MaxList - 1}, {api.MaxList}, {api.MaxList + 1}, {api.MaxList + 2}, {api.MaxList + 3}, {api.MaxSeq}, {most, most}, {10, most},
		{4000, 95}, {4000, 97}, {4000, 98}, {4000, 99}, {4000, 100, 7}, {0, 0, 0, 0, 0, 0, most, most}, {3, 2, most, 5},
	} {
		s := setOf(t, pairs(0, 2, 0, 5, 1, 1, 1, 3, 2, 1, 2, 2)...)
		var wanted []api.Dot
		for origin := 0; origin < len(v) && len(wanted) < api.MaxList; origin++ {
			for seq := 1; seq <= v[origin] && len(wanted) < api.MaxList; seq++ {
				if _, has := s.Get(api.Dot{Origin: origin, Seq: seq}); !has {
					wanted = append(wanted, api.Dot{Origin: origin, Seq: seq})
				}
			}
		}
		if got := s.Missing(v); !slices.Equal(got, wanted) || len(got) > api.MaxList {
			t.Errorf("Missing(%v): %d dots, not %d", v, len(got), len(wanted))
		}
	}
	s := setOf(t, pairs(0, 2, 0, 5)...)
	for n, wanted := range map[int]int{api.MaxList + 1: api.MaxList - 1, api.MaxList + 2: api.MaxList, api.MaxList + 3: api.MaxList} {
		if got := s.Missing([]int{n}); len(got) != wanted || got[len(got)-1].Seq != wanted+2 {
			t.Errorf("Missing up to %d: %d, the last one %v", n, len(got), got[len(got)-1])
		}
	}
}

// Of a full set whose dots all lie beyond a gap just the gap is missing.
func TestMissingOfManyExtras(t *testing.T) {
	s := dots.New[int]()
	for i := range api.MaxDots {
		s.Add(api.Dot{Origin: 2, Seq: i + 2}, i)
	}
	if got := s.Missing([]int{0, 0, api.MaxDots + 1}); !slices.Equal(got, pairs(2, 1)) {
		t.Error("Missing:", got)
	}
	if got := s.Missing([]int{0, 0, api.MaxDots + 2, 1}); !slices.Equal(got, pairs(2, 1, 2, api.MaxDots+2, 3, 1)) {
		t.Error("Missing:", got)
	}
	if got := s.Missing([]int{0, 0, math.MaxInt}); len(got) != api.MaxList || got[1].Seq != api.MaxDots+2 {
		t.Error("Missing:", len(got))
	}
}

// An iterator may be stopped at each dot, and begins anew.
func TestStopped(t *testing.T) {
	s := setOf(t, pairs(0, 1, 0, 2, 0, 4, 3, 1, 3, 5)...)
	for _, items := range []iter.Seq2[api.Dot, int]{s.All(), s.Upto([]int{4, 0, 0, 5})} {
		all := collect(t, "whole", items)
		if len(all) != 5 {
			t.Fatal(all)
		}
		for stop := range all {
			var got []api.Dot
			for d := range items {
				got = append(got, d)
				if len(got) == stop+1 {
					break
				}
			}
			if !slices.Equal(got, all[:stop+1]) {
				t.Errorf("stopped at %d: %v", stop, got)
			}
			wantItems(t, "behind a stop", items, all)
		}
	}
	wantSet(t, s, []int{2, 0, 0, 1}, pairs(0, 4, 3, 5), pairs(0, 1, 0, 2, 0, 4, 3, 1, 3, 5))
}

// An iterator within itself, or behind one that panics, begins anew.
func TestWithinItself(t *testing.T) {
	s := setOf(t, pairs(0, 1, 0, 3, 2, 1)...)
	items := s.All()
	for range items {
		wantItems(t, "within itself", items, pairs(0, 1, 0, 3, 2, 1))
	}
	func() {
		defer func() {
			if recover() != "stop" {
				t.Error("the panic was caught")
			}
		}()
		for range items {
			panic("stop")
		}
	}()
	wantItems(t, "behind a panic", items, pairs(0, 1, 0, 3, 2, 1))
}

// The vector is as it was at the call, the set as it is when it is ranged over, one look ahead of the first.
func TestWhenItIsLookedAt(t *testing.T) {
	s := setOf(t, pairs(0, 1, 0, 3)...)
	v := []int{3, 1}
	all, upto := s.All(), s.Upto(v)
	v[0], v[1] = 0, 9
	wantItems(t, "Upto", upto, pairs(0, 1, 0, 3))
	add(t, s, pairs(1, 1, 1, 2)...)
	wantItems(t, "Upto", upto, pairs(0, 1, 0, 3, 1, 1))
	wantItems(t, "All", all, pairs(0, 1, 0, 3, 1, 1, 1, 2))

	var got []api.Dot
	next := pairs(0, 2, 0, 4, 1, 3, 5, 5)
	for d, x := range all {
		if add(t, s, next[len(got)]); x != value(d) {
			t.Errorf("%v has %d", d, x)
		}
		got = append(got, d)
	}
	if !slices.Equal(got, pairs(0, 1, 0, 3, 1, 1, 1, 2)) {
		t.Error("what was added meanwhile is gone over:", got)
	}
	wantItems(t, "All", all, pairs(0, 1, 0, 2, 0, 3, 0, 4, 1, 1, 1, 2, 1, 3, 5, 5))
	wantItems(t, "Upto", upto, pairs(0, 1, 0, 2, 0, 3, 1, 1))
}
