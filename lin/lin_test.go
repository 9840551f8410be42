package lin_test

import (
	"math"
	"testing"

	"pannier/api"
	"pannier/lin"
)

const late = api.MaxTime - 1 // the last moment that may be

func checkout(token string, begin, end, id int) api.Seen {
	return api.Seen{Checkout: true, Token: token, Begin: begin, End: end, Id: id}
}

func status(token string, begin, end, id int) api.Seen {
	return api.Seen{Token: token, Begin: begin, End: end, Id: id}
}

func sights(l ...api.Seen) []api.Seen { return l }

func tokens(l ...string) []string { return l }

func wantCheck(t *testing.T, what string, l []api.Seen, tokens []string, wanted api.Errno) {
	t.Helper()
	if err := lin.Check(l, tokens); err != wanted {
		t.Errorf("%s: Check(%+v, %q): %d, not %d", what, l, tokens, err, wanted)
	}
}

func wantBounds(t *testing.T, what string, l []api.Seen, token string, id, first, last int) {
	t.Helper()
	if a, b := lin.Bounds(l, token, id); a != first || b != last {
		t.Errorf("%s: Bounds(%+v, %q, %d): %d, %d, not %d, %d", what, l, token, id, a, b, first, last)
	}
}

func wantIds(t *testing.T, what string, l []api.Seen, tokens []string, wanted bool) {
	t.Helper()
	if lin.Ids(l, tokens) != wanted {
		t.Errorf("%s: Ids(%+v, %q): not %v", what, l, tokens, wanted)
	}
}

func TestNothing(t *testing.T) {
	wantCheck(t, "nothing", nil, nil, api.OK)
	wantCheck(t, "empty lists", []api.Seen{}, []string{}, api.OK)
	wantIds(t, "nothing", nil, nil, true)
	wantIds(t, "empty lists", []api.Seen{}, []string{}, true)
	wantIds(t, "no sights", nil, tokens("a", "b"), true)
	wantBounds(t, "nothing", nil, "a", 1, api.MaxTime, api.MaxTime)
}

// TestExample: a status behind a checkout that was told of the order must have been told of it.
func TestExample(t *testing.T) {
	wantCheck(t, "behind", sights(checkout("a", 1, 2, 1), status("a", 3, 4, 0)), tokens("a"), api.ErrRow)
	wantCheck(t, "at once", sights(checkout("a", 1, 3, 1), status("a", 3, 4, 0)), tokens("a"), api.OK)
	wantCheck(t, "told", sights(checkout("a", 1, 2, 1), status("a", 3, 4, 1)), tokens("a"), api.OK)
}

// TestMayBe: each edge, of checkouts and of statuses, of tokens with an order and of others.
func TestMayBe(t *testing.T) {
	for _, s := range []struct {
		what    string
		sight   api.Seen
		allowed bool
	}{
		{"a Begin of 1", checkout("a", 1, 4, 1), true},
		{"a Begin of 0", checkout("a", 0, 4, 1), false},
		{"a Begin below 0", checkout("a", -1, 4, 1), false},
		{"the least Begin", checkout("a", math.MinInt, 4, 1), false},
		{"an End at its Begin", checkout("a", 4, 4, 1), true},
		{"an End of 1 at its Begin", checkout("a", 1, 1, 1), true},
		{"an End ahead of its Begin", checkout("a", 4, 3, 1), false},
		{"an End below 0", checkout("a", 4, -4, 1), false},
		{"the least End", checkout("a", 4, math.MinInt, 1), false},
		{"a Begin just below MaxTime", checkout("a", late, late, 1), true},
		{"a Begin just below MaxTime, without an End", checkout("a", late, 0, 0), true},
		{"a Begin at MaxTime", checkout("a", api.MaxTime, 0, 0), false},
		{"a Begin at MaxTime, and an End", checkout("a", api.MaxTime, api.MaxTime, 1), false},
		{"a Begin above MaxTime", checkout("a", math.MaxInt, 0, 0), false},
		{"an End just below MaxTime", checkout("a", 1, late, 1), true},
		{"an End at MaxTime", checkout("a", 1, api.MaxTime, 1), false},
		{"an End above MaxTime", checkout("a", 1, math.MaxInt, 1), false},
		{"no Begin, and no End", checkout("a", 0, 0, 0), false},
		{"a Begin below 0, and no End", checkout("a", -1, 0, 0), false},
		{"not ended", checkout("a", 7, 0, 0), true},
		{"not ended, and told an order", checkout("a", 7, 0, 1), false},
		{"an Id below 0", checkout("a", 1, 4, -1), false},
		{"the least Id", checkout("a", 1, 4, math.MinInt), false},
		{"an Id below 0, and not ended", checkout("a", 1, 0, -1), false},
	} {
		other := checkout("a", 1, 0, 0)
		wanted := api.OK
		if !s.allowed {
			wanted = api.ErrArg
		}
		wantCheck(t, s.what, sights(s.sight, other), tokens("a"), wanted)
		wantCheck(t, s.what+", at the end", sights(other, s.sight), tokens("a"), wanted)
		s.sight.Checkout = false
		wantCheck(t, s.what+", of a status", sights(other, s.sight), tokens("a"), wanted)
		s.sight.Token = "x"
		if s.sight.Id > 0 && s.allowed {
			wanted = api.ErrRow
		}
		wantCheck(t, s.what+", of a token without an order", sights(other, s.sight), tokens("a"), wanted)
	}
}

func TestTokenTwice(t *testing.T) {
	a := checkout("a", 1, 4, 1)
	wantCheck(t, "side by side", sights(a), tokens("a", "a"), api.ErrArg)
	wantCheck(t, "apart", sights(a, checkout("b", 1, 4, 2)), tokens("a", "b", "a"), api.ErrArg)
	wantCheck(t, "without sights", nil, tokens("b", "a", "b"), api.ErrArg)
	wantCheck(t, "empty ones", nil, tokens("", ""), api.ErrArg)
	wantCheck(t, "an empty one", sights(checkout("", 1, 4, 1)), tokens(""), api.OK)
}

// TestArgComesFirst: also where there is no row.
func TestArgComesFirst(t *testing.T) {
	wrong := checkout("a", 5, 6, 2)
	wantCheck(t, "no row", sights(wrong), tokens("a"), api.ErrRow)
	wantCheck(t, "and a sight that may not be", sights(wrong, status("b", 0, 0, 0)), tokens("a"), api.ErrArg)
	wantCheck(t, "and a token twice", sights(wrong), tokens("a", "a"), api.ErrArg)
}

func TestIds(t *testing.T) {
	ab := tokens("a", "b")
	for _, x := range []struct {
		what   string
		l      []api.Seen
		wanted bool
	}{
		{"right ones", sights(checkout("a", 1, 2, 1), status("b", 1, 2, 2), checkout("b", 1, 2, 2)), true},
		{"those of others", sights(checkout("a", 1, 2, 2)), false},
		{"one of three", sights(checkout("a", 1, 2, 1), status("b", 1, 2, 1), checkout("b", 1, 2, 2)), false},
		{"the last of three", sights(checkout("a", 1, 2, 1), checkout("b", 1, 2, 2), status("b", 1, 2, 1)), false},
		{"beyond the tokens", sights(status("b", 1, 2, 3)), false},
		{"far beyond", sights(status("b", 1, 2, math.MaxInt)), false},
		{"below 0", sights(status("a", 1, 2, -1)), false},
		{"far below 0", sights(checkout("a", 1, 2, math.MinInt)), false},
		{"a status that was told none", sights(status("a", 1, 2, 0)), true},
		{"a checkout that was told none", sights(checkout("a", 1, 2, 0)), false},
		{"of no order", sights(status("x", 1, 2, 1)), false},
		{"of no order, told none", sights(status("x", 1, 2, 0)), true},
		{"a checkout of no order", sights(checkout("x", 1, 2, 1)), false},
		{"a checkout of no order, told none", sights(checkout("x", 1, 2, 0)), false},
		{"a checkout that did not end", sights(checkout("a", 1, 0, 0)), true},
		{"a checkout of no order that did not end", sights(checkout("x", 1, 0, 0)), true},
		{"a status that did not end", sights(status("x", 1, 0, 0)), true},
		{"not ended, though it has a wrong Id", sights(status("a", 1, 0, 2), checkout("a", 1, 0, -7)), true},
		{"an End below 0", sights(checkout("a", 1, -1, 2)), false},
		{"an End below 0, a right Id", sights(checkout("a", 1, -1, 1)), true},
		{"moments that may not be", sights(checkout("a", -5, api.MaxTime, 1)), true},
	} {
		wantIds(t, x.what, x.l, ab, x.wanted)
	}
	wantIds(t, "no tokens", sights(status("a", 1, 2, 1)), nil, false)
	wantIds(t, "no tokens, told none", sights(status("a", 1, 2, 0)), nil, true)
}

func TestBounds(t *testing.T) {
	none := api.MaxTime
	for _, x := range []struct {
		what        string
		l           []api.Seen
		id          int
		first, last int
	}{
		{"a checkout", sights(checkout("a", 3, 8, 1)), 1, 3, 8},
		{"one that did not end", sights(checkout("a", 3, 0, 0)), 1, 3, none},
		{"the least Begin, the least End", sights(checkout("a", 3, 8, 1), checkout("a", 2, 9, 1), checkout("a", 4, 7, 1)), 1, 2, 7},
		{"the least Begin is of one that did not end", sights(checkout("a", 3, 8, 1), checkout("a", 1, 0, 0)), 1, 1, 8},
		{"the least Begin is of one that was told another order", sights(checkout("a", 3, 8, 1), checkout("a", 2, 4, 2)), 1, 2, 8},
		{"a status that was told none", sights(checkout("a", 3, 8, 1), status("a", 5, 6, 0)), 1, 5, 8},
		{"two of them", sights(status("a", 6, 7, 0), checkout("a", 3, 8, 1), status("a", 5, 9, 0)), 1, 6, 8},
		{"one ahead of the checkout", sights(checkout("a", 3, 8, 1), status("a", 1, 2, 0)), 1, 3, 8},
		{"behind what was told", sights(checkout("a", 3, 8, 1), status("a", 10, 12, 0)), 1, 10, 8},
		{"a status that did not end", sights(checkout("a", 3, 8, 1), status("a", 5, 0, 0)), 1, 3, 8},
		{"a status that was told the order", sights(checkout("a", 3, 8, 1), status("a", 5, 6, 1)), 1, 3, 6},
		{"a checkout that was told none", sights(checkout("a", 3, 8, 1), checkout("a", 5, 6, 0)), 1, 3, 8},
		{"one that was told another order", sights(checkout("a", 3, 8, 1), status("a", 5, 6, 2)), 1, 3, 8},
		{"that other order", sights(checkout("a", 3, 8, 1), status("a", 5, 6, 2)), 2, 3, 6},
		{"of which nobody was told", sights(checkout("a", 3, 8, 1), status("a", 5, 6, 2)), 3, 3, none},
		{"no checkout", sights(status("a", 5, 6, 1)), 1, none, 6},
		{"no checkout, and a status that was told none", sights(status("a", 5, 6, 0)), 1, none, none},
		{"of other tokens", sights(checkout("b", 3, 8, 1), status("b", 5, 6, 0), status("", 1, 2, 1)), 1, none, none},
		{"beside other tokens", sights(checkout("b", 1, 2, 1), checkout("a", 3, 8, 1), status("b", 5, 6, 0), status("b", 4, 5, 1)), 1, 3, 8},
		{"just below MaxTime", sights(checkout("a", late, late, 1)), 1, late, late},
		{"told none, asked for 0", sights(checkout("a", 3, 8, 1), status("a", 5, 6, 0), status("a", 4, 7, 0)), 0, 5, 6},
		{"not ended, asked for 0", sights(checkout("a", 3, 0, 0), status("a", 5, 0, 0)), 0, 3, none},
		{"an Id below 0", sights(checkout("a", 3, 8, -2), status("a", 5, 6, -2)), -2, 3, 6},
		{"not ended, though it has an Id", sights(checkout("a", 3, 0, 1)), 1, 3, none},
		{"moments below 1", sights(checkout("a", -3, -2, 1), status("a", -9, 6, 0)), 1, -3, -2},
		{"moments above MaxTime", sights(checkout("a", none+1, none+3, 1), status("a", none+2, none+4, 0)), 1, none + 2, none + 3},
		{"statuses above MaxTime alone", sights(status("a", none+2, none+4, 0), status("a", none+2, none+4, 1)), 1, none, none + 4},
	} {
		wantBounds(t, x.what, x.l, "a", x.id, x.first, x.last)
	}
}

func TestCheck(t *testing.T) {
	ab := tokens("a", "b")
	for _, x := range []struct {
		what   string
		l      []api.Seen
		tokens []string
		wanted api.Errno
	}{
		{"orders one by one", sights(checkout("a", 1, 2, 1), checkout("b", 3, 4, 2)), ab, api.OK},
		{"the second one ahead of the first one", sights(checkout("a", 3, 4, 1), checkout("b", 1, 2, 2)), ab, api.ErrRow},
		{"it ends as the first one begins", sights(checkout("a", 3, 4, 1), checkout("b", 1, 3, 2)), ab, api.OK},
		{"all at one moment", sights(checkout("b", 3, 3, 2), status("b", 3, 3, 0), checkout("a", 3, 3, 1), status("a", 3, 3, 0), status("a", 3, 3, 1)), ab, api.OK},
		{"first above last of the same one", sights(checkout("a", 1, 9, 1), status("a", 5, 6, 0), status("a", 3, 4, 1)), tokens("a"), api.ErrRow},
		{"first at last of the same one", sights(checkout("a", 1, 9, 1), status("a", 4, 6, 0), status("a", 3, 4, 1)), tokens("a"), api.OK},
		{"told ahead of all checkouts", sights(checkout("a", 5, 9, 1), status("a", 3, 4, 1)), tokens("a"), api.ErrRow},
		{"first above last of the next but one", sights(checkout("a", 5, 0, 0), checkout("b", 1, 9, 2), checkout("c", 1, 4, 3)), tokens("a", "b", "c"), api.ErrRow},
		{"last of an earlier one is ahead", sights(checkout("a", 1, 2, 1), checkout("b", 5, 6, 2), checkout("c", 1, 6, 3)), tokens("a", "b", "c"), api.OK},
		{"a status that was told none holds up the next", sights(checkout("a", 1, 9, 1), checkout("b", 1, 9, 2), status("a", 6, 7, 0), status("b", 4, 5, 2)), ab, api.ErrRow},
		{"a status of a token without an order", sights(status("x", 1, 2, 0)), nil, api.OK},
		{"and one behind", sights(checkout("a", 1, 2, 1), status("x", 3, 4, 0)), tokens("a"), api.OK},
		{"a status that was told of no order", sights(status("x", 1, 2, 1)), nil, api.ErrRow},
		{"a checkout of a token without an order", sights(checkout("x", 1, 2, 1)), nil, api.ErrRow},
		{"a checkout that was told none", sights(checkout("a", 1, 2, 0)), tokens("a"), api.ErrRow},
		{"a checkout that did not end, of no order", sights(checkout("x", 1, 0, 0)), nil, api.OK},
		{"a checkout that did not end, of an order", sights(checkout("a", 1, 0, 0)), tokens("a"), api.OK},
		{"and was seen", sights(checkout("a", 1, 0, 0), status("a", 1, 2, 1)), tokens("a"), api.OK},
		{"and was seen ahead of it", sights(checkout("a", 3, 0, 0), status("a", 1, 2, 1)), tokens("a"), api.ErrRow},
		{"and was not seen", sights(checkout("a", 1, 0, 0), status("a", 8, 9, 0)), tokens("a"), api.OK},
		{"statuses that did not end alone", sights(status("a", 1, 0, 0), status("x", 1, 0, 0)), nil, api.OK},
		{"nobody made it", nil, tokens("a"), api.ErrRow},
		{"nobody made it, somebody was told", sights(status("a", 1, 2, 1)), tokens("a"), api.ErrRow},
		{"nobody made it, one did not end", sights(status("a", 1, 0, 0)), tokens("a"), api.ErrRow},
		{"nobody made the last one", sights(checkout("a", 1, 2, 1)), ab, api.ErrRow},
		{"nobody made the first one", sights(checkout("b", 1, 2, 2)), ab, api.ErrRow},
		{"nobody made the first one, the other did not end", sights(checkout("b", 1, 0, 0)), ab, api.ErrRow},
		{"told the other order", sights(checkout("a", 1, 2, 2), checkout("b", 1, 2, 1)), ab, api.ErrRow},
		{"at the last moments", sights(checkout("a", late, late, 1), checkout("b", late, 0, 0), status("a", late, late, 0)), ab, api.OK},
	} {
		wantCheck(t, x.what, x.l, x.tokens, x.wanted)
	}
}
