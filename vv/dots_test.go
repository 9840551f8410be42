package vv_test

import (
	"iter"
	"math"
	"slices"
	"testing"

	"pannier/api"
	"pannier/vv"
)

// pairs are dots, each an origin and a number.
func pairs(numbers ...int) []api.Dot {
	var dots []api.Dot
	for pair := range slices.Chunk(numbers, 2) {
		dots = append(dots, api.Dot{Origin: pair[0], Seq: pair[1]})
	}
	return dots
}

// wantDots looks whether dots goes over those, each time anew.
func wantDots(t *testing.T, what string, dots iter.Seq[api.Dot], wanted []api.Dot) {
	t.Helper()
	for range 2 {
		if got := slices.Collect(dots); !slices.Equal(got, wanted) {
			t.Errorf("%s: %v, not %v", what, got, wanted)
		}
	}
}

func TestDots(t *testing.T) {
	tests := []struct {
		v      []int
		wanted []api.Dot
	}{
		{nil, nil},
		{[]int{0, 0}, nil},
		{[]int{2}, pairs(0, 1, 0, 2)},
		{[]int{1, 0, 2, 0}, pairs(0, 1, 2, 1, 2, 2)},
		{[]int{-5, 1, -1}, pairs(1, 1)},
		{[]int{math.MinInt}, nil},
		{[]int{0, 0, 0, 0, 0, 0, 1, 1}, pairs(6, 1, 7, 1)},
	}
	for _, k := range tests {
		v := roomy(k.v...)
		wantDots(t, "Dots", vv.Dots(v), k.wanted)
		if n := vv.Count(v); n != len(k.wanted) {
			t.Errorf("Count(%v): %d", k.v, n)
		}
		wantKept(t, "Dots, Count", v, k.v...)
	}
}

func TestCount(t *testing.T) {
	if n := vv.Count([]int{api.MaxSeq, -7, api.MaxSeq, 0, 3}); n != 2*api.MaxSeq+3 {
		t.Error("Count:", n)
	}
	if n := vv.Count([]int{math.MinInt, 4, math.MinInt}); n != 4 {
		t.Error("Count:", n)
	}
}

func TestBetween(t *testing.T) {
	tests := []struct {
		a, b   []int
		wanted []api.Dot
	}{
		{nil, nil, nil},
		{[]int{1}, []int{2, 1}, pairs(0, 2, 1, 1)},
		{[]int{1, 0, 2}, []int{0, 3, 2}, pairs(1, 1, 1, 2, 1, 3)},
		{[]int{2, 1}, []int{1}, nil},
		{[]int{3, 3, 3}, []int{1, 4}, pairs(1, 4)},
		{[]int{1, 1}, []int{1, 1, 0}, nil},
		{[]int{0, 0, 0}, []int{0, 2}, pairs(1, 1, 1, 2)},
		{[]int{-9}, []int{1}, pairs(0, 1)},
		{[]int{9, 1}, []int{math.MinInt, 2}, pairs(1, 2)},
		{[]int{math.MaxInt}, []int{math.MinInt, 1}, pairs(1, 1)},
		{[]int{math.MinInt}, []int{2}, pairs(0, 1, 0, 2)},
		{[]int{math.MaxInt - 2}, []int{math.MaxInt}, pairs(0, math.MaxInt-1, 0, math.MaxInt)},
		{[]int{api.MaxSeq - 1}, []int{api.MaxSeq}, pairs(0, api.MaxSeq)},
	}
	for _, k := range tests {
		a, b := roomy(k.a...), roomy(k.b...)
		wantDots(t, "Between", vv.Between(a, b), k.wanted)
		wantKept(t, "Between", a, k.a...)
		wantKept(t, "Between", b, k.b...)
	}
}

// Between is what b has and a has not, whatever they are.
func TestBetweenAnyTwo(t *testing.T) {
	for _, a := range small() {
		for _, b := range small() {
			var wanted []api.Dot
			for origin := range 3 {
				for seq := 1; seq <= 2; seq++ {
					if d := (api.Dot{Origin: origin, Seq: seq}); vv.Has(b, d) && !vv.Has(a, d) {
						wanted = append(wanted, d)
					}
				}
			}
			wantDots(t, "Between", vv.Between(a, b), wanted)
		}
	}
}

// An iterator may be stopped at each dot, and begins anew.
func TestDotsStopped(t *testing.T) {
	for _, dots := range []iter.Seq[api.Dot]{vv.Dots([]int{2, 0, 2}), vv.Between([]int{1, 5}, []int{3, 5, 2})} {
		all := slices.Collect(dots)
		if len(all) != 4 {
			t.Fatal(all)
		}
		for stop := range 4 {
			var got []api.Dot
			for d := range dots {
				got = append(got, d)
				if len(got) == stop+1 {
					break
				}
			}
			if !slices.Equal(got, all[:stop+1]) {
				t.Errorf("stopped at %d: %v", stop, got)
			}
		}
		wantDots(t, "behind a stop", dots, all)
	}
	for d := range vv.Dots([]int{math.MaxInt}) {
		if d.Seq == 5 {
			break
		}
	}
}

// The dots are those of the vectors as they were at the call.
func TestDotsOfTheCall(t *testing.T) {
	a, b := []int{1, 1}, []int{2, 2}
	dots, between := vv.Dots(b), vv.Between(a, b)
	a[0], a[1], b[0], b[1] = 5, 0, 0, 7
	wantDots(t, "Dots", dots, pairs(0, 1, 0, 2, 1, 1, 1, 2))
	wantDots(t, "Between", between, pairs(0, 2, 1, 2))
	for d := range between {
		a[0], b[1] = 0, 0
		_ = d
	}
	wantDots(t, "Between", between, pairs(0, 2, 1, 2))
}
