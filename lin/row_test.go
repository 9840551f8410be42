package lin_test

import (
	"fmt"
	"math/rand"
	"slices"
	"testing"

	"pannier/api"
	"pannier/lin"
)

// number is that of a token's order, 0, if it has none.
func number(made []string, token string) int {
	return slices.Index(made, token) + 1
}

// carryOut answers the orders behind a sight, and whether it fits there.
func carryOut(s api.Seen, made, tokens []string) ([]string, bool) {
	if s.Checkout && number(made, s.Token) == 0 {
		if len(made) == len(tokens) || tokens[len(made)] != s.Token {
			return nil, false
		}
		made = tokens[:len(made)+1]
	}
	return made, s.End == 0 || s.Id == number(made, s.Token)
}

// isRow asks whether there is a row of the rest, behind those that made these orders, by trying all of them.
func isRow(rest []api.Seen, made, tokens []string) bool {
	if len(made) == len(tokens) && !slices.ContainsFunc(rest, func(s api.Seen) bool { return s.End != 0 }) {
		return true
	}
	for i, s := range rest {
		if slices.ContainsFunc(rest, func(r api.Seen) bool { return r.End != 0 && r.End < s.Begin }) {
			continue
		}
		if next, fits := carryOut(s, made, tokens); fits && isRow(slices.Delete(slices.Clone(rest), i, i+1), next, tokens) {
			return true
		}
	}
	return false
}

// byBounds asks what is said to be the same: the numbers are right, and no order's first is above the last of
// it or of a later one. An order that nobody made comes behind all moments, and so is in no row.
func byBounds(l []api.Seen, tokens []string) bool {
	for i, token := range tokens {
		first, _ := lin.Bounds(l, token, i+1)
		if first == api.MaxTime {
			return false
		}
		for j := i; j < len(tokens); j++ {
			if _, last := lin.Bounds(l, tokens[j], j+1); first > last {
				return false
			}
		}
	}
	return lin.Ids(l, tokens)
}

// wantAsTried holds Check and the bounds against all rows, and answers whether one fits.
func wantAsTried(t *testing.T, l []api.Seen, tokens []string) bool {
	t.Helper()
	is := isRow(l, nil, tokens)
	wanted := api.ErrRow
	if is {
		wanted = api.OK
	}
	if err := lin.Check(l, tokens); err != wanted {
		t.Fatalf("Check(%+v, %q): %d, not %d", l, tokens, err, wanted)
	}
	if byBounds(l, tokens) != is {
		t.Fatalf("the bounds of %+v, %q: not %v", l, tokens, is)
	}
	return is
}

// fewSights are all that there are at three moments, of three tokens, told of two orders.
func fewSights() []api.Seen {
	var l []api.Seen
	for _, token := range []string{"a", "b", "x"} {
		for begin := 1; begin <= 3; begin++ {
			l = append(l, checkout(token, begin, 0, 0), status(token, begin, 0, 0))
			for end := begin; end <= 3; end++ {
				for id := range 3 {
					l = append(l, checkout(token, begin, end, id), status(token, begin, end, id))
				}
			}
		}
	}
	return l
}

// TestAllOfFewSights: up to two sights, whatever they are, and three of which the first is a checkout.
func TestAllOfFewSights(t *testing.T) {
	all := fewSights()
	var fit, none int
	for _, order := range [][]string{nil, {"a"}, {"a", "b"}, {"b", "a"}} {
		count := func(l ...api.Seen) {
			if wantAsTried(t, l, order) {
				fit++
			} else {
				none++
			}
		}
		count()
		for i, a := range all {
			count(a)
			for j, b := range all[i:] {
				count(a, b)
				if a.Checkout && a.Begin < 3 && a.Token == "a" {
					for _, c := range all[i+j:] {
						count(a, b, c)
					}
				}
			}
		}
	}
	if fit < 1000 || none < 1000 {
		t.Errorf("%d fit, %d do not", fit, none)
	}
}

// drawn are the tokens of some orders, and sights of them that fit: each was told what there was at a moment
// between its Begin and its End.
func drawn(rng *rand.Rand, orders, count, span int) ([]api.Seen, []string) {
	var order []string
	var moments []int
	for i := range orders {
		order = append(order, fmt.Sprint("t", i))
		moments = append(moments, 1+rng.Intn(span))
	}
	slices.Sort(moments)
	around := func(moment int) (int, int) {
		return max(1, moment-rng.Intn(span/2)), moment + rng.Intn(span/2)
	}
	var l []api.Seen
	for i, token := range order {
		begin, end := around(moments[i])
		if rng.Intn(4) == 0 {
			l = append(l, checkout(token, begin, 0, 0))
		} else {
			l = append(l, checkout(token, begin, end, i+1))
		}
	}
	for len(l) < count {
		at, moment := rng.Intn(orders+1), 1+rng.Intn(span)
		begin, end := around(moment)
		switch {
		case at == orders:
			l = append(l, status("x", begin, end, 0))
		case moment < moments[at]:
			l = append(l, status(order[at], begin, end, 0))
		default:
			l = append(l, api.Seen{Checkout: rng.Intn(2) == 0, Token: order[at], Begin: begin, End: end, Id: at + 1})
		}
	}
	rng.Shuffle(len(l), func(i, j int) { l[i], l[j] = l[j], l[i] })
	return l, order
}

// spoil has one of them be something else that may be.
func spoil(rng *rand.Rand, l []api.Seen, orders, span int) {
	s := &l[rng.Intn(len(l))]
	switch rng.Intn(5) {
	case 0:
		s.Checkout = !s.Checkout
	case 1:
		s.Token = fmt.Sprint("t", rng.Intn(orders+1))
	case 2:
		s.Begin = 1 + rng.Intn(span)
		s.End = s.Begin + rng.Intn(span)
	case 3:
		s.Id = rng.Intn(orders + 1)
		s.End = max(s.End, s.Begin)
	case 4:
		s.End, s.Id = 0, 0
	}
}

// TestAllRows: of drawn sights, of which some were told something else.
func TestAllRows(t *testing.T) {
	rng := rand.New(rand.NewSource(1))
	var fit, none int
	for range 30000 {
		orders := rng.Intn(4)
		l, order := drawn(rng, orders, orders+rng.Intn(4), 6)
		if !wantAsTried(t, l, order) {
			t.Fatalf("%+v does not fit", l)
		}
		for range rng.Intn(4) {
			if len(l) > 0 {
				spoil(rng, l, orders, 6)
			}
		}
		if wantAsTried(t, l, order) {
			fit++
		} else {
			none++
		}
	}
	if fit < 1000 || none < 1000 {
		t.Errorf("%d fit, %d do not", fit, none)
	}
}

// TestManySights: so many that nobody could hold each against each.
func TestManySights(t *testing.T) {
	rng := rand.New(rand.NewSource(2))
	l, order := drawn(rng, 50000, 200000, 1<<30)
	l, order = append(l, checkout("last", 1, 0, 0), status("last", late-2, late-1, 50001)), append(order, "last")
	for what, x := range map[string]struct {
		more   api.Seen
		wanted api.Errno
	}{
		"told it":                   {status("last", late, late, 50001), api.OK},
		"told none till then":       {status("last", late-1, late, 0), api.OK},
		"told none behind its last": {status("last", late, late, 0), api.ErrRow},
	} {
		if err := lin.Check(append(l, x.more), order); err != x.wanted {
			t.Errorf("%s: %d, not %d", what, err, x.wanted)
		}
	}
}

// TestArgumentsStay: what is handed in, and the room behind it, is not changed.
func TestArgumentsStay(t *testing.T) {
	rng := rand.New(rand.NewSource(3))
	l, order := drawn(rng, 5, 20, 10)
	l, order = append(l, status("beyond", 9, 9, 9)), append(order, "beyond")
	sightsBefore, tokensBefore := slices.Clone(l), slices.Clone(order)
	front, names := l[:20], order[:5]
	wantCheck(t, "with room behind", front, names, api.OK)
	wantIds(t, "with room behind", front, names, true)
	lin.Bounds(front, "t1", 2)
	if !slices.Equal(l, sightsBefore) || !slices.Equal(order, tokensBefore) {
		t.Errorf("%+v, %q, not %+v, %q", l, order, sightsBefore, tokensBefore)
	}
}

// TestOrderOfSightsSaysNothing: nor does a sight that is there twice.
func TestOrderOfSightsSaysNothing(t *testing.T) {
	rng := rand.New(rand.NewSource(4))
	for range 2000 {
		orders := 1 + rng.Intn(3)
		l, order := drawn(rng, orders, orders+4, 8)
		spoil(rng, l, orders, 8)
		wanted := lin.Check(l, order)
		rng.Shuffle(len(l), func(i, j int) { l[i], l[j] = l[j], l[i] })
		wantCheck(t, "in another order", l, order, wanted)
		wantCheck(t, "twice", append(l, l...), order, wanted)
	}
}
