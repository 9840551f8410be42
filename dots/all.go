package dots

import (
	"cmp"
	"iter"
	"slices"

	"pannier/api"
	"pannier/vv"
)

// item is a dot with its value.
type item[T any] struct {
	dot   api.Dot
	value T
}

// All goes over all dots with their values, by rising origins, of one by rising numbers, as the set is when
// it is ranged over.
func (s *Set[T]) All() iter.Seq2[api.Dot, T] {
	return s.those(func(api.Dot) bool { return true })
}

// Upto goes over those that v has, likewise.
func (s *Set[T]) Upto(v []int) iter.Seq2[api.Dot, T] {
	v = slices.Clone(v)
	return s.those(func(d api.Dot) bool { return vv.Has(v, d) })
}

func (s *Set[T]) those(want func(d api.Dot) bool) iter.Seq2[api.Dot, T] {
	return func(yield func(api.Dot, T) bool) {
		// One look: who ranges may add dots meanwhile.
		for _, i := range s.items(want) {
			if !yield(i.dot, i.value) {
				return
			}
		}
	}
}

// items answers the dots for which want holds, with their values, in order.
func (s *Set[T]) items(want func(d api.Dot) bool) []item[T] {
	if s.closed() {
		return nil
	}
	var items []item[T]
	put := func(d api.Dot, x T) {
		if want(d) {
			items = append(items, item[T]{dot: d, value: x})
		}
	}
	for origin, run := range s.runs {
		for i, x := range run {
			put(api.Dot{Origin: origin, Seq: i + 1}, x)
		}
	}
	for d, x := range s.extras {
		put(d, x)
	}
	slices.SortFunc(items, func(a, b item[T]) int { return compareDots(a.dot, b.dot) })
	return items
}

// compareDots puts dots by rising origins, those of one by rising numbers.
func compareDots(a, b api.Dot) int {
	return cmp.Or(cmp.Compare(a.Origin, b.Origin), cmp.Compare(a.Seq, b.Seq))
}
