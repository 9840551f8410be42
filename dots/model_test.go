package dots_test

import (
	"cmp"
	"math/rand"
	"slices"
	"testing"

	"pannier/api"
	"pannier/dots"
	"pannier/vv"
)

// plainSet is a list of dots, told of by the document's words alone.
type plainSet []api.Dot

func (p plainSet) sorted() []api.Dot {
	return slices.SortedFunc(slices.Values(p), func(a, b api.Dot) int {
		return cmp.Or(a.Origin-b.Origin, a.Seq-b.Seq)
	})
}

func (p plainSet) vector() []int {
	v := make([]int, api.MaxNodes)
	for origin := range v {
		for slices.Contains(p, api.Dot{Origin: origin, Seq: v[origin] + 1}) {
			v[origin]++
		}
	}
	return vv.Plain(v)
}

func (p plainSet) those(want func(d api.Dot) bool) []api.Dot {
	return slices.DeleteFunc(p.sorted(), func(d api.Dot) bool { return !want(d) })
}

func (p plainSet) missing(v []int) []api.Dot {
	var l []api.Dot
	for d := range vv.Dots(v) {
		if !slices.Contains(p, d) {
			l = append(l, d)
		}
	}
	return l
}

// wantAsPlain looks whether s tells what the plain one tells, and whether that hangs together.
func wantAsPlain(t *testing.T, s *dots.Set[int], p plainSet, v []int) {
	t.Helper()
	vector := p.vector()
	extras := p.those(func(d api.Dot) bool { return !vv.Has(vector, d) })
	wantSet(t, s, vector, extras, p.sorted())
	wantItems(t, "Upto", s.Upto(v), p.those(func(d api.Dot) bool { return vv.Has(v, d) }))
	if got, wanted := s.Missing(v), p.missing(v); !slices.Equal(got, wanted) {
		t.Errorf("Missing(%v): %v, not %v", v, got, wanted)
	}
	if len(extras) == 0 && !slices.Equal(collect(t, "All", s.All()), slices.Collect(vv.Dots(s.Vector()))) {
		t.Error("without extras there are other dots than the vector's")
	}
}

// Whatever is added, one behind the other, a set tells what the plain one tells.
func TestAsThePlainOne(t *testing.T) {
	for seed := range int64(200) {
		rng := rand.New(rand.NewSource(seed))
		s, p := dots.New[int](), plainSet(nil)
		origins, seqs := 1+rng.Intn(8), 1+rng.Intn(12)
		for range 60 {
			d := api.Dot{Origin: rng.Intn(origins+1) - rng.Intn(2), Seq: rng.Intn(seqs + 1)}
			wanted := api.OK
			switch {
			case d.Origin < 0 || d.Origin > 6 || d.Seq < 1:
				wanted = api.ErrArg
			case slices.Contains(p, d):
				wanted = api.ErrTwice
			default:
				p = append(p, d)
			}
			if err := s.Add(d, value(d)); err != wanted {
				t.Fatalf("seed %d: Add(%v): %d, not %d", seed, d, err, wanted)
			}
			if rng.Intn(8) == 0 {
				old := s
				s = s.Fork()
				old.Add(api.Dot{Origin: rng.Intn(7), Seq: 1 + rng.Intn(seqs)}, -1)
			}
			v := make([]int, rng.Intn(8))
			for i := range v {
				v[i] = rng.Intn(seqs+4) - 2
			}
			wantAsPlain(t, s, p, v)
		}
		if t.Failed() {
			t.Fatalf("seed %d", seed)
		}
	}
}

// Vector and Extras hang on the dots alone: whatever the order in which they came.
func TestInAnyOrder(t *testing.T) {
	for _, l := range [][]api.Dot{
		pairs(0, 1, 0, 2, 0, 3, 1, 1, 1, 2, 2, 1),
		pairs(0, 1, 0, 3, 0, 4, 1, 2, 1, 3, 6, 1),
		pairs(0, 2, 0, 3, 0, 4, 0, 5, 0, 6, 0, 7),
	} {
		first := setOf(t, l...)
		orders := 0
		for order := range permutations(l) {
			orders++
			s := setOf(t, order...)
			wantSet(t, s, first.Vector(), first.Extras(), l)
			if t.Failed() {
				t.Fatal(order)
			}
		}
		if orders != 720 {
			t.Fatal(orders)
		}
	}
}

// permutations goes over all orders of l.
func permutations(l []api.Dot) func(yield func([]api.Dot) bool) {
	return func(yield func([]api.Dot) bool) {
		var put func(ahead, left []api.Dot) bool
		put = func(ahead, left []api.Dot) bool {
			if len(left) == 0 {
				return yield(ahead)
			}
			for i, d := range left {
				rest := slices.Concat(left[:i], left[i+1:])
				if !put(append(slices.Clone(ahead), d), rest) {
					return false
				}
			}
			return true
		}
		put(nil, l)
	}
}
