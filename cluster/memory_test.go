package cluster_test

import (
	"slices"
	"testing"
	"unsafe"

	"pannier/api"
	"pannier/cluster"
)

// scribble fills a list and the room behind its end.
func scribble[T any](l []T, x T) {
	l = l[:cap(l)]
	for i := range l {
		l[i] = x
	}
}

// sold answers a cluster that told an update, a read and a checkout.
func sold(t *testing.T) *cluster.Cluster {
	t.Helper()
	c := start(t, config(1), 1)
	do(t, c, at(api.StepElect, 0))
	settle(t, c, 0)
	do(t, c, call(0, update(1, "c", "tea", 2)), call(0, read(2, "c")), call(0, checkout(3, "c", "t")))
	settle(t, c, 0)
	settle(t, c, 0)
	if a := lastTold(t, c).Answer; a.Id != 3 || len(a.Lines) != 1 || len(a.Order.Cut) != 1 || len(a.Applied) != 1 {
		t.Fatal("told:", a)
	}
	return c
}

// TestAnswersAreNew: who is told may change what was told, and its spare room, and nothing else changes.
func TestAnswersAreNew(t *testing.T) {
	c := sold(t)
	before := picture(c)
	for range 2 {
		told := c.Told()
		for _, x := range told {
			scribble(x.Answer.Lines, api.Line{Sku: "x", Qty: 9})
			scribble(x.Answer.Applied, 9)
			scribble(x.Answer.Order.Cut, 9)
		}
		scribble(told, api.Told{Step: 9})
		scribble(c.Made(), api.Made{Step: 9})
		scribble(c.Packets(0), api.Packet{Id: 9})
		if after := picture(c); after != before {
			t.Fatalf("it is\n%s\nnot\n%s", after, before)
		}
	}
}

// TestListsShareNothing: of one answer, and of two.
func TestListsShareNothing(t *testing.T) {
	c := sold(t)
	a, b := c.Told(), c.Told()
	x := &a[len(a)-1].Answer
	scribble(x.Applied, 7)
	if x.Order.Cut[0] != 1 {
		t.Error("what is applied shares its room with a cut:", x.Order.Cut)
	}
	scribble(x.Order.Cut, 8)
	if x.Applied[0] != 7 {
		t.Error("a cut shares its room with what is applied:", x.Applied)
	}
	if y := b[len(b)-1].Answer; y.Applied[0] != 1 || y.Order.Cut[0] != 1 {
		t.Error("two answers share their room:", y)
	}
}

// TestArgumentsStay: what is handed in, and the room behind it, is not changed and not kept.
func TestArgumentsStay(t *testing.T) {
	c := start(t, config(2), 1)
	on := []int{10, 10, 77, 77}
	do(t, c, api.Step{Kind: api.StepTick, Time: 10, On: on[:2]})
	if !slices.Equal(on, []int{10, 10, 77, 77}) {
		t.Error("On:", on)
	}
	scribble(on, 5)
	wantNow(t, "behind it", c, 0, 10, 10)
	do(t, c, call(0, update(1, "c", "tea", 1)), at(api.StepFlush, 0), call(0, update(2, "c", "tea", 1)))
	keep := []api.Torn{{Name: "n-log-1", Bytes: 3}, {Name: "x", Bytes: 7}}
	do(t, c, api.Step{Kind: api.StepCrash, Keep: keep[:1]})
	wantSame(t, "Keep", keep, []api.Torn{{Name: "n-log-1", Bytes: 3}, {Name: "x", Bytes: 7}})
	scribble(keep, api.Torn{})
	do(t, c, at(api.StepRestart, 0))
	wantSame(t, "behind it", c.Node(0, 0).Read("c"), tea(1))
}

// TestTextsAreNotKept: what is written down has texts of its own, which those of a call may be pieces of.
func TestTextsAreNotKept(t *testing.T) {
	c := start(t, config(1), 1)
	long := string([]byte("cart-tea-token"))
	x := api.Call{Id: 1, Kind: api.CallUpdate, Cart: long[:4], Sku: long[5:8], Token: long[9:]}
	do(t, c, call(0, x))
	y := c.Made()[0].Call
	wantSame(t, "made", y, x)
	for _, s := range [][2]string{{x.Cart, y.Cart}, {x.Sku, y.Sku}, {x.Token, y.Token}} {
		if unsafe.StringData(s[0]) == unsafe.StringData(s[1]) {
			t.Errorf("%q is kept", s[0])
		}
	}
}
