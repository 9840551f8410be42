package lease_test

import (
	"math"
	"math/rand"
	"testing"

	"pannier/api"
	"pannier/lease"
)

func newHold(t *testing.T, length int) *lease.Hold {
	t.Helper()
	h, err := lease.NewHold(length)
	if h == nil || err != api.OK {
		t.Fatalf("NewHold(%d): %v, %d", length, h, err)
	}
	return h
}

func of(round, node int) api.Ballot {
	return api.Ballot{Round: round, Node: node}
}

// wantGive gives h, and looks whether it is given, and when it ends then.
func wantGive(t *testing.T, h *lease.Hold, b api.Ballot, now int, wanted bool, until int) {
	t.Helper()
	if got := h.Give(b, now); got != wanted || h.Until() != until {
		t.Errorf("Give(%v, %d): %v, until %d, not %v, %d", b, now, got, h.Until(), wanted, until)
	}
}

// wantBlocks looks whether h blocks all others than b, but not b, up to its end.
func wantBlocks(t *testing.T, h *lease.Hold, b api.Ballot, until int) {
	t.Helper()
	if h.Until() != until {
		t.Errorf("until %d, not %d", h.Until(), until)
	}
	for _, now := range []int{math.MinInt, -1, 0, 1, until - 1, until, until + 1, api.MaxClock, math.MaxInt} {
		for _, other := range []api.Ballot{of(0, 0), of(0, 1), of(1, 0), of(1, 1), of(1, 2), of(2, 1), of(9, 6), of(-1, -1)} {
			if h.Blocks(other, now) != (now < until && other != b) {
				t.Errorf("%v until %d: Blocks(%v, %d) is %v", b, until, other, now, h.Blocks(other, now))
			}
		}
	}
}

func TestNewHold(t *testing.T) {
	for _, length := range []int{0, -1, 1<<20 + 1, math.MinInt, math.MaxInt} {
		if h, err := lease.NewHold(length); h != nil || err != api.ErrArg {
			t.Errorf("NewHold(%d): %v, %d", length, h, err)
		}
	}
	for _, length := range []int{1, 100, 1 << 20} {
		h := newHold(t, length)
		wantBlocks(t, h, of(0, 0), 0)
		wantGive(t, h, of(1, 1), 0, true, length)
		wantBlocks(t, h, of(1, 1), length)
	}
}

func TestGive(t *testing.T) {
	h := newHold(t, 100)
	wantGive(t, h, of(1, 1), 10, true, 110)
	wantGive(t, h, of(1, 1), 10, true, 110)
	wantGive(t, h, of(1, 0), 10, false, 110)
	wantGive(t, h, of(2, 1), 109, false, 110)
	wantGive(t, h, of(0, 0), 109, false, 110)
	wantGive(t, h, of(1, 1), 5, true, 110) // it was given for longer
	wantGive(t, h, of(1, 1), 50, true, 150)
	wantGive(t, h, of(1, 2), 149, false, 150)
	wantBlocks(t, h, of(1, 1), 150)
	wantGive(t, h, of(1, 2), 150, true, 250)
	wantBlocks(t, h, of(1, 2), 250)
	wantGive(t, h, of(1, 1), 249, false, 250)
	wantGive(t, h, of(1, 1), 400, true, 500) // also a lesser one, when it is over
	wantBlocks(t, h, of(1, 1), 500)
}

func TestGiveAtTheEndsOfClocks(t *testing.T) {
	h := newHold(t, 1<<20)
	for _, now := range []int{-1, math.MinInt, api.MaxClock + 1, math.MaxInt} {
		wantGive(t, h, of(1, 1), now, false, 0)
		wantBlocks(t, h, of(0, 0), 0)
	}
	wantGive(t, h, of(1, 1), 0, true, 1<<20)
	for _, now := range []int{-1, math.MinInt, api.MaxClock + 1, math.MaxInt} {
		wantGive(t, h, of(1, 1), now, false, 1<<20)
		wantGive(t, h, of(1, 2), now, false, 1<<20)
	}
	wantGive(t, h, of(1, 2), api.MaxClock, true, api.MaxClock+1<<20)
	wantBlocks(t, h, of(1, 2), api.MaxClock+1<<20)
	wantGive(t, h, of(1, 1), api.MaxClock, false, api.MaxClock+1<<20)
	wantGive(t, h, of(1, 2), 0, true, api.MaxClock+1<<20)
}

func TestRestart(t *testing.T) {
	h := newHold(t, 100)
	h.Restart(200)
	wantBlocks(t, h, of(0, 0), 300)
	wantGive(t, h, of(1, 1), 299, false, 300)
	wantGive(t, h, of(1, 1), 300, true, 400)
	h.Restart(250) // it was given for longer
	wantBlocks(t, h, of(0, 0), 400)
	wantGive(t, h, of(1, 1), 399, false, 400)
	for _, now := range []int{-1, math.MinInt, api.MaxClock + 1, math.MaxInt} {
		h.Restart(now)
		wantBlocks(t, h, of(0, 0), 400)
	}
	wantGive(t, h, of(1, 1), 400, true, 500)
	for _, now := range []int{-1, math.MinInt, api.MaxClock + 1, math.MaxInt} {
		h.Restart(now)
		wantBlocks(t, h, of(1, 1), 500)
	}
	h.Restart(401)
	wantBlocks(t, h, of(0, 0), 501)
	h.Restart(api.MaxClock)
	wantBlocks(t, h, of(0, 0), api.MaxClock+100)
	h = newHold(t, 7)
	h.Restart(0)
	wantBlocks(t, h, of(0, 0), 7)
	wantGive(t, h, of(0, 0), 3, true, 10) // nobody's, and so the empty ballot's
}

func TestForkOfAHold(t *testing.T) {
	h := newHold(t, 100)
	wantGive(t, h, of(1, 1), 10, true, 110)
	f := h.Fork()
	wantGive(t, h, of(1, 1), 20, true, 120)
	wantBlocks(t, f, of(1, 1), 110)
	f.Restart(50)
	wantBlocks(t, f, of(0, 0), 150)
	wantBlocks(t, h, of(1, 1), 120)
	wantGive(t, f, of(2, 2), 150, true, 250)
	wantBlocks(t, h, of(1, 1), 120)
	f = newHold(t, 9).Fork()
	wantBlocks(t, f, of(0, 0), 0)
	wantGive(t, f, of(1, 1), 1, true, 10)
}

func TestClosedHold(t *testing.T) {
	for _, h := range []*lease.Hold{nil, {}} {
		wantGive(t, h, of(1, 1), 0, false, 0)
		wantGive(t, h, of(0, 0), 0, false, 0)
		h.Restart(5)
		if h.Blocks(of(1, 1), -1) || h.Blocks(of(1, 1), 5) || h.Until() != 0 {
			t.Error("a closed hold blocks")
		}
		if f := h.Fork(); f != nil {
			t.Error("Fork:", f)
		}
	}
}

// Against one that goes by the words alone.
func TestHoldByScripts(t *testing.T) {
	rng := rand.New(rand.NewSource(2))
	for range 2000 {
		length := 1 + rng.Intn(30)
		h := newHold(t, length)
		var held api.Ballot
		until := 0
		for range 40 {
			now, b := rng.Intn(90)-1, of(rng.Intn(2), rng.Intn(2))
			switch rng.Intn(8) {
			case 0:
				h.Restart(now)
				if now >= 0 {
					held, until = of(0, 0), max(until, now+length)
				}
			case 1:
				h = h.Fork()
			default:
				may := now >= 0 && (now >= until || b == held)
				if may {
					held, until = b, max(until, now+length)
				}
				wantGive(t, h, b, now, may, until)
			}
			wantBlocks(t, h, held, until)
		}
		if t.Failed() {
			t.Fatal(length)
		}
	}
}
