package vv

import (
	"iter"
	"slices"

	"pannier/api"
)

// Dots goes over the dots that v has, by rising origins, of one by rising numbers.
func Dots(v []int) iter.Seq[api.Dot] {
	return Between(nil, v)
}

// Between goes over the dots that b has and a has not, by rising origins, of one by rising numbers.
func Between(a, b []int) iter.Seq[api.Dot] {
	a, b = slices.Clone(a), slices.Clone(b)
	return func(yield func(api.Dot) bool) {
		for origin := range len(b) {
			had := dotsOf(Of(a, origin))
			for i := range dotsOf(b[origin]) - had {
				if !yield(api.Dot{Origin: origin, Seq: had + i + 1}) {
					return
				}
			}
		}
	}
}

// Count answers how many dots v has.
func Count(v []int) int {
	sum := 0
	for _, n := range v {
		sum += dotsOf(n)
	}
	return sum
}

// dotsOf is how many dots there are of an origin with the number n.
func dotsOf(n int) int {
	return max(n, 0)
}
