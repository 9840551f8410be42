package audit_test

import (
	"fmt"
	"slices"
	"testing"

	"pannier/api"
	"pannier/audit"
	"pannier/model"
)

// event is an addition of one tea to the cart c.
func event(origin, seq int, deps ...int) api.Event {
	return api.Event{Dot: api.Dot{Origin: origin, Seq: seq}, Deps: deps, Cart: "c", Sku: "tea", Qty: 1}
}

func in(cart string, e api.Event) api.Event {
	e.Cart = cart
	return e
}

func tagged(epoch int, e api.Event) api.Event {
	e.Epoch = epoch
	return e
}

// adds is the event with another article, and so many of it.
func adds(sku string, qty int, e api.Event) api.Event {
	e.Sku, e.Qty = sku, qty
	return e
}

func events(l ...api.Event) []api.Event { return l }

func seal(cart string, epoch int, v ...int) api.Seal {
	return api.Seal{Token: fmt.Sprint(cart, epoch), Cart: cart, Epoch: epoch, Cut: v}
}

func seals(l ...api.Seal) []api.Seal { return l }

func dot(origin, seq int) api.Dot { return api.Dot{Origin: origin, Seq: seq} }

func line(sku string, qty int) api.Line { return api.Line{Sku: sku, Qty: qty} }

// having is a model of these.
func having(t *testing.T, l []api.Event, seals ...api.Seal) *model.Model {
	t.Helper()
	m := model.New()
	for _, e := range l {
		if err := m.Event(e); err != api.OK {
			t.Fatalf("%+v: %d", e, err)
		}
	}
	for _, s := range seals {
		if _, made, err := m.Entry(api.Entry{Seal: s}); !made || err != api.OK {
			t.Fatalf("%+v: %v, %d", s, made, err)
		}
	}
	return m
}

func wantClosed(t *testing.T, what string, l []api.Event, v []int, wanted bool) {
	t.Helper()
	if audit.Closed(l, v) != wanted {
		t.Errorf("%s: Closed(%+v, %v): not %v", what, l, v, wanted)
	}
}

func wantCuts(t *testing.T, what string, l []api.Event, seals []api.Seal, at int, wanted bool) {
	t.Helper()
	if n, is := audit.Cuts(l, seals); n != at || is != wanted {
		t.Errorf("%s: Cuts(%+v, %+v): %d, %v, not %d, %v", what, l, seals, n, is, at, wanted)
	}
}

func wantAgree(t *testing.T, what string, a, b []api.Entry, count int, wanted bool) {
	t.Helper()
	if n, is := audit.Agree(a, b); n != count || is != wanted {
		t.Errorf("%s: Agree(%+v, %+v): %d, %v, not %d, %v", what, a, b, n, is, count, wanted)
	}
	if n, is := audit.Agree(b, a); n != count || is != wanted {
		t.Errorf("%s: Agree(%+v, %+v): %d, %v, not %d, %v", what, b, a, n, is, count, wanted)
	}
}

func wantTwice(t *testing.T, what string, l []api.Event, seals []api.Seal, wanted ...api.Dot) {
	t.Helper()
	if got := audit.Twice(l, seals); !slices.Equal(got, wanted) {
		t.Errorf("%s: Twice(%+v, %+v): %v, not %v", what, l, seals, got, wanted)
	}
}

func wantSales(t *testing.T, what string, m *model.Model, wanted ...api.Line) {
	t.Helper()
	if got := audit.Sales(m); !slices.Equal(got, wanted) {
		t.Errorf("%s: Sales: %v, not %v", what, got, wanted)
	}
}

func wantLeft(t *testing.T, what string, m *model.Model, wanted ...api.Line) {
	t.Helper()
	if got := audit.Left(m); !slices.Equal(got, wanted) {
		t.Errorf("%s: Left: %v, not %v", what, got, wanted)
	}
}

func wantTags(t *testing.T, what string, l []api.Event, wanted bool) {
	t.Helper()
	if audit.Tags(l) != wanted {
		t.Errorf("%s: Tags(%+v): not %v", what, l, wanted)
	}
}
