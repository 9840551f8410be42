package node_test

import (
	"math/rand"
	"testing"

	"pannier/api"
)

// anyRecord is a record of few names and numbers, so that many of them go together, or one with some bytes changed.
func anyRecord(rng *rand.Rand) string {
	var rec string
	b := ballot(rng.Intn(4), rng.Intn(3))
	switch rng.Intn(6) {
	case 0, 1, 2:
		origin, seq := rng.Intn(3), 1+rng.Intn(4)
		deps := make([]int, 3)
		for i := range deps {
			deps[i] = rng.Intn(4) * rng.Intn(2)
		}
		deps[origin] = seq - 1
		e := adds(origin, seq, 1<<(3*origin+seq-1), cutNoughts(deps)...)
		e.Epoch, e.Clears = rng.Intn(2), rng.Intn(3) == 0
		rec = eventRecord(e)
	case 3:
		rec = messageRecord("M", inBallot(api.MsgPrepare, 0, 1, b, rng.Intn(3)))
	case 4:
		rec = messageRecord("M", accept(0, 1, b, rng.Intn(4), anyEntry(rng)))
	case 5:
		rec = messageRecord("C", chosen(1, 1, rng.Intn(6), anyEntry(rng)))
	}
	if rng.Intn(5) > 0 {
		return rec
	}
	bytes := []byte(rec)
	bytes[rng.Intn(len(bytes))] = byte(rng.Intn(256))
	return string(bytes[:len(bytes)-rng.Intn(2)])
}

func anyEntry(rng *rand.Rand) api.Entry {
	if rng.Intn(3) == 0 {
		return noop()
	}
	return sealed([]string{"t", "u", "v"}[rng.Intn(3)], []string{"c", "d"}[rng.Intn(2)], rng.Intn(2), cutNoughts([]int{rng.Intn(3), rng.Intn(3)})...)
}

// cutNoughts is v without the noughts at its end.
func cutNoughts(v []int) []int {
	for len(v) > 0 && v[len(v)-1] == 0 {
		v = v[:len(v)-1]
	}
	return v
}

// Whatever records there are: a snapshot of them makes the same state, and goes on in the same way.
func TestAnyRecords(t *testing.T) {
	for seed := range int64(3000) {
		rng := rand.New(rand.NewSource(seed))
		var recs, more []string
		for range rng.Intn(40) {
			recs = append(recs, anyRecord(rng))
		}
		for range rng.Intn(20) {
			more = append(more, anyRecord(rng))
		}
		wanted := start(t, config(3), 1, written(t, append(recs[:len(recs):len(recs)], more...)...), 0)
		d := written(t, recs...)
		n := start(t, config(3), 1, d, 0)
		if err := n.Compact(); err != api.OK {
			t.Fatal("Compact:", err)
		}
		again := start(t, config(3), 1, d, 0)
		wantState(t, "a snapshot", again, n)
		compacted := records(t, d, 1<<12)
		wantState(t, "and more", start(t, config(3), 1, written(t, append(compacted, more...)...), 0), wanted)
		if t.Failed() {
			t.Fatalf("seed %d: %q, %q", seed, recs, more)
		}
	}
}

// No bytes make New, or what comes behind it, panic.
func FuzzRecord(f *testing.F) {
	rng := rand.New(rand.NewSource(1))
	for range 50 {
		f.Add(anyRecord(rng), anyRecord(rng))
	}
	f.Fuzz(func(t *testing.T, a, b string) {
		if len(a) > api.MaxRecord || len(b) > api.MaxRecord {
			return
		}
		d := written(t, a, b)
		n := start(t, config(3), 1, d, 0)
		wanted := state(n)
		if err := n.Compact(); err == api.OK {
			if got := state(start(t, config(3), 1, d, 0)); got != wanted {
				t.Errorf("%s\nnot\n%s", got, wanted)
			}
		}
		n.Tick(100)
		n.Elect()
		n.Call(update(1, "c", "tea", 1))
		n.Call(checkout(2, "c", "t"))
		n.Gossip(0)
		flush(t, n)
	})
}
