package cart

import (
	"cmp"
	"slices"

	"pannier/api"
	"pannier/vv"
)

// Merge answers of each dot that a or b has one event, by rising dots: a's first one, or else b's.
func Merge(a, b []api.Event) []api.Event {
	merged := firsts(slices.Concat(a, b))
	slices.SortFunc(merged, func(x, y api.Event) int { return compareDots(x.Dot, y.Dot) })
	return told(merged)
}

// Cut answers the events of l whose dots v has, in l's order.
func Cut(l []api.Event, v []int) []api.Event {
	return told(chosen(l, func(e api.Event) bool { return vv.Has(v, e.Dot) }))
}

// compareDots puts dots by rising origins, those of one by rising numbers.
func compareDots(a, b api.Dot) int {
	return cmp.Or(cmp.Compare(a.Origin, b.Origin), cmp.Compare(a.Seq, b.Seq))
}

// firsts answers of each dot the first event of l, in l's order.
func firsts(l []api.Event) []api.Event {
	met := map[api.Dot]struct{}{}
	return chosen(l, func(e api.Event) bool {
		_, is := met[e.Dot]
		met[e.Dot] = struct{}{}
		return !is
	})
}

// chosen answers the events of l for which is holds, in l's order, in a new list.
func chosen(l []api.Event, is func(e api.Event) bool) []api.Event {
	var out []api.Event
	for _, e := range l {
		if is(e) {
			out = append(out, e)
		}
	}
	return out
}

// told gives each event of l, which is a list of this package's own, vectors that nobody else has.
func told(l []api.Event) []api.Event {
	for i, e := range l {
		l[i].Deps = append([]int(nil), e.Deps...)
	}
	return l
}
