package vv_test

import (
	"fmt"
	"slices"
	"testing"

	"pannier/vv"
)

func TestMergeAndMeet(t *testing.T) {
	tests := []struct{ a, b, merged, met []int }{
		{nil, nil, nil, nil},
		{[]int{1, 0, 2}, []int{0, 3}, []int{1, 3, 2}, nil},
		{[]int{1, 5, 2}, []int{4, 3}, []int{4, 5, 2}, []int{1, 3}},
		{[]int{1, 2}, nil, []int{1, 2}, nil},
		{[]int{1, 2, 3}, []int{1, 2, 3}, []int{1, 2, 3}, []int{1, 2, 3}},
		{[]int{1, 0, 0}, []int{1}, []int{1}, []int{1}},
		{[]int{0, 0}, []int{0, 0, 0}, nil, nil},
		{[]int{0, 7}, []int{7, 0}, []int{7, 7}, nil},
		{[]int{5, 7, 0, 1}, []int{4, 0, 1, 1}, []int{5, 7, 1, 1}, []int{4, 0, 0, 1}},
		{[]int{1, 2, 3, 4, 5, 6, 7, 8}, []int{9}, []int{9, 2, 3, 4, 5, 6, 7, 8}, []int{1}},
		{[]int{-1}, nil, nil, []int{-1}},
		{[]int{-1, -2}, []int{-3}, []int{-1}, []int{-3, -2}},
	}
	for _, k := range tests {
		for range 2 {
			a, b := roomy(k.a...), roomy(k.b...)
			wantVector(t, fmt.Sprint("Merge of ", a, b), vv.Merge(a, b), k.merged, a, b)
			wantVector(t, fmt.Sprint("Meet of ", a, b), vv.Meet(a, b), k.met, a, b)
			wantKept(t, "Merge, Meet", a, k.a...)
			wantKept(t, "Merge, Meet", b, k.b...)
			k.a, k.b = k.b, k.a
		}
	}
}

func TestCompare(t *testing.T) {
	tests := []struct {
		a, b   []int
		wanted int
	}{
		{nil, nil, 0},
		{nil, []int{0, 0}, 0},
		{[]int{1, 0}, []int{1}, 0},
		{[]int{1, 2}, []int{1, 2, 0, 0}, 0},
		{nil, []int{1}, -1},
		{[]int{0, 0, 0}, []int{0, 1}, -1},
		{[]int{1, 2}, []int{1, 3}, -1},
		{[]int{1, 2}, []int{2, 2}, -1},
		{[]int{1, 2}, []int{1, 2, 1}, -1},
		{[]int{1, 2}, []int{2, 3, 4}, -1},
		{[]int{1, 0, 2}, []int{0, 3}, 2},
		{[]int{1}, []int{0, 1}, 2},
		{[]int{5, 1, 1}, []int{4, 2, 1}, 2},
		{[]int{-1}, nil, -1},
		{[]int{1, -1}, []int{1, 0}, -1},
		{[]int{1, -1}, []int{0}, 2},
	}
	turned := map[int]int{0: 0, -1: 1, 2: 2}
	for _, k := range tests {
		if c, back := vv.Compare(roomy(k.a...), roomy(k.b...)), vv.Compare(k.b, k.a); c != k.wanted || back != turned[k.wanted] {
			t.Errorf("Compare(%v, %v): %d, the other way %d", k.a, k.b, c, back)
		}
		if below := vv.Below(roomy(k.a...), roomy(k.b...)); below != (k.wanted <= 0) {
			t.Errorf("Below(%v, %v): %v", k.a, k.b, below)
		}
		if above := vv.Below(k.b, k.a); above != (k.wanted == 0) {
			t.Errorf("Below(%v, %v): %v", k.b, k.a, above)
		}
	}
}

// small are all vectors of up to three numbers from 0 to 2, with noughts at their ends too.
func small() [][]int {
	all := [][]int{nil}
	for at := 0; len(all[at]) < 3; at++ {
		for n := range 3 {
			all = append(all, append(slices.Clone(all[at]), n))
		}
	}
	return all
}

func same(a, b []int) bool {
	return slices.Equal(a, b)
}

// Merge is the least vector above two, Meet the greatest below them.
func TestLeastAndGreatest(t *testing.T) {
	all := small()
	for _, a := range all {
		for _, b := range all {
			merged, met := vv.Merge(a, b), vv.Meet(a, b)
			if !vv.Below(a, merged) || !vv.Below(b, merged) || !vv.Below(met, a) || !vv.Below(met, b) {
				t.Errorf("%v, %v: Merge %v, Meet %v", a, b, merged, met)
			}
			for _, c := range all {
				if vv.Below(a, c) && vv.Below(b, c) && !vv.Below(merged, c) {
					t.Errorf("%v is above %v, %v, but not above their Merge %v", c, a, b, merged)
				}
				if vv.Below(c, a) && vv.Below(c, b) && !vv.Below(c, met) {
					t.Errorf("%v is below %v, %v, but not below their Meet %v", c, a, b, met)
				}
			}
		}
	}
}

// The order and the groups do not matter, and a vector with itself is itself.
func TestOrderAndGroups(t *testing.T) {
	all := small()
	for _, f := range []func(a, b []int) []int{vv.Merge, vv.Meet} {
		for _, a := range all {
			if !same(f(a, a), vv.Plain(a)) {
				t.Errorf("%v with itself: %v", a, f(a, a))
			}
			for _, b := range all {
				ab := f(a, b)
				if !same(ab, f(b, a)) {
					t.Errorf("%v, %v: the order matters", a, b)
				}
				for _, c := range all {
					if !same(f(ab, c), f(a, f(b, c))) {
						t.Errorf("%v, %v, %v: the groups matter", a, b, c)
					}
				}
			}
		}
	}
}

// A vector is below another one, if that one has all its dots.
func TestBelowIsByDots(t *testing.T) {
	all := small()
	for _, a := range all {
		for _, b := range all {
			has := true
			for d := range vv.Dots(a) {
				has = has && vv.Has(b, d)
			}
			if vv.Below(a, b) != has {
				t.Errorf("Below(%v, %v): %v", a, b, !has)
			}
			if (vv.Compare(a, b) == 0) != same(vv.Plain(a), vv.Plain(b)) {
				t.Errorf("Compare(%v, %v): %d", a, b, vv.Compare(a, b))
			}
		}
	}
}
