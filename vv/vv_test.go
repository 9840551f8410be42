package vv_test

import (
	"math"
	"slices"
	"testing"

	"pannier/api"
	"pannier/vv"
)

// roomy is v with room behind its end, in which something stands.
func roomy(v ...int) []int {
	return append(slices.Clone(v), 77, 78, 79)[:len(v)]
}

// wantVector looks whether got is just that list, in memory of its own that ends with it.
func wantVector(t *testing.T, what string, got, wanted []int, from ...[]int) {
	t.Helper()
	if !slices.Equal(got, wanted) {
		t.Errorf("%s: %v, not %v", what, got, wanted)
	}
	if cap(got) != len(got) {
		t.Errorf("%s: %v has room behind its end", what, got)
	}
	for _, v := range from {
		if len(got) > 0 && len(v) > 0 && &got[0] == &v[0] {
			t.Errorf("%s: %v is the argument's memory", what, got)
		}
	}
}

// wantKept looks whether an argument that roomy made is as it was, with its room.
func wantKept(t *testing.T, what string, v []int, was ...int) {
	t.Helper()
	if whole := v[:len(was)+3]; !slices.Equal(whole, append(was, 77, 78, 79)) {
		t.Errorf("%s changed its argument: %v", what, whole)
	}
}

func TestMay(t *testing.T) {
	may := [][]int{
		nil, {}, {0}, {1}, {0, 0, 0}, {0, 5}, {5, 0}, {api.MaxSeq}, {1, 2, 3, 4, 5, 6, 7}, {0, 0, 0, 0, 0, 0, 0},
		{api.MaxSeq, api.MaxSeq, api.MaxSeq, api.MaxSeq, api.MaxSeq, api.MaxSeq, api.MaxSeq},
	}
	for _, v := range may {
		if !vv.May(v) {
			t.Errorf("%v may be", v)
		}
	}
	mayNot := [][]int{
		{-1}, {1, -1}, {-1, 1}, {api.MaxSeq + 1}, {0, 0, api.MaxSeq + 1}, {math.MinInt}, {math.MaxInt},
		{1, 2, 3, 4, 5, 6, 7, 8}, {0, 0, 0, 0, 0, 0, 0, 0}, {1, 2, 3, 4, 5, 6, -7},
	}
	for _, v := range mayNot {
		if vv.May(v) {
			t.Errorf("%v may not be", v)
		}
	}
}

func TestOf(t *testing.T) {
	v := roomy(4, 0, 6)
	for origin, wanted := range map[int]int{0: 4, 1: 0, 2: 6, 3: 0, 4: 0, 7: 0, -1: 0, math.MinInt: 0, math.MaxInt: 0} {
		if n := vv.Of(v, origin); n != wanted {
			t.Errorf("Of %d: %d", origin, n)
		}
	}
	if vv.Of(nil, 0) != 0 || vv.Of([]int{-3}, 0) != -3 {
		t.Error("Of of no vector, of a number below 0")
	}
	if n := vv.Of([]int{0, 0, 0, 0, 0, 0, 0, 0, 9}, 8); n != 9 {
		t.Error("Of behind the last node:", n)
	}
}

func TestPlain(t *testing.T) {
	tests := []struct{ v, plain []int }{
		{nil, nil}, {[]int{}, nil}, {[]int{0}, nil}, {[]int{0, 0}, nil}, {[]int{1}, []int{1}}, {[]int{1, 0}, []int{1}},
		{[]int{0, 1}, []int{0, 1}}, {[]int{0, 1, 0, 0}, []int{0, 1}}, {[]int{1, 0, 2, 0}, []int{1, 0, 2}},
		{[]int{3, -1}, []int{3, -1}}, {[]int{-1, 0}, []int{-1}}, {[]int{1, 2, 3}, []int{1, 2, 3}},
		{make([]int, 100), nil}, {append(make([]int, 9), 1, 0), append(make([]int, 9), 1)},
	}
	for _, k := range tests {
		v := roomy(k.v...)
		wantVector(t, "Plain", vv.Plain(v), k.plain, v)
		wantKept(t, "Plain", v, k.v...)
	}
}

func TestWith(t *testing.T) {
	tests := []struct {
		v         []int
		origin, n int
		wanted    []int
	}{
		{nil, 0, 1, []int{1}},
		{nil, 0, 0, nil},
		{nil, 6, 0, nil},
		{nil, 6, 5, []int{0, 0, 0, 0, 0, 0, 5}},
		{[]int{1, 2, 3}, 1, 9, []int{1, 9, 3}},
		{[]int{1, 2, 3}, 1, 0, []int{1, 0, 3}},
		{[]int{1, 2, 3}, 2, 0, []int{1, 2}},
		{[]int{1, 0, 3}, 2, 0, []int{1}},
		{[]int{0, 0, 3}, 2, 0, nil},
		{[]int{1, 2, 3}, 2, 1, []int{1, 2, 1}},
		{[]int{1}, 3, 4, []int{1, 0, 0, 4}},
		{[]int{1, 0, 0}, 0, 2, []int{2}},
		{[]int{1}, 3, 0, []int{1}},
		{[]int{1}, 1, api.MaxSeq, []int{1, api.MaxSeq}},
		{[]int{1, 2, 3, 4, 5, 6, 7, 8}, 0, 2, []int{2, 2, 3, 4, 5, 6, 7, 8}},
		{[]int{-1, 5}, 1, 0, []int{-1}},
	}
	for _, k := range tests {
		v := roomy(k.v...)
		w, err := vv.With(v, k.origin, k.n)
		if err != api.OK {
			t.Errorf("With(%v, %d, %d): %d", k.v, k.origin, k.n, err)
		}
		wantVector(t, "With", w, k.wanted, v)
		wantKept(t, "With", v, k.v...)
	}
}

func TestWithWhatMayNotBe(t *testing.T) {
	tests := []struct{ origin, n int }{
		{-1, 0}, {-1, 1}, {7, 0}, {7, 1}, {math.MinInt, 1}, {math.MaxInt, 1},
		{0, -1}, {6, -1}, {0, api.MaxSeq + 1}, {6, math.MaxInt}, {0, math.MinInt}, {-1, -1},
	}
	for _, k := range tests {
		if w, err := vv.With([]int{1, 2}, k.origin, k.n); w != nil || err != api.ErrArg {
			t.Errorf("With(%d, %d): %v, %d", k.origin, k.n, w, err)
		}
	}
}

func TestHas(t *testing.T) {
	v := roomy(2, 0, 1, -4)
	has := []api.Dot{{Origin: 0, Seq: 1}, {Origin: 0, Seq: 2}, {Origin: 2, Seq: 1}}
	for origin := -2; origin < 9; origin++ {
		for seq := -6; seq < 80; seq++ {
			d := api.Dot{Origin: origin, Seq: seq}
			if vv.Has(v, d) != slices.Contains(has, d) {
				t.Errorf("Has(%v): %v", d, vv.Has(v, d))
			}
		}
	}
	if vv.Has(nil, api.Dot{}) || vv.Has(nil, api.Dot{Seq: 1}) || vv.Has(v, api.Dot{Origin: math.MaxInt, Seq: 1}) || vv.Has(v, api.Dot{Origin: math.MinInt, Seq: 1}) {
		t.Error("a dot that nobody has")
	}
	if most := []int{math.MaxInt}; !vv.Has(most, api.Dot{Seq: math.MaxInt}) || vv.Has(most, api.Dot{Seq: math.MinInt}) {
		t.Error("the greatest number")
	}
}
