package ballot_test

import (
	"fmt"
	"math"
	"math/rand"
	"reflect"
	"slices"
	"testing"

	"pannier/api"
	"pannier/ballot"
)

func round(round, node int) api.Ballot {
	return api.Ballot{Round: round, Node: node}
}

func noop() api.Entry {
	return api.Entry{Noop: true}
}

func entry(token string, cut ...int) api.Entry {
	return api.Entry{Seal: api.Seal{Token: token, Cart: "c", Epoch: 3, Cut: cut}}
}

func voted(slot int, b api.Ballot, e api.Entry) api.Voted {
	return api.Voted{Slot: slot, Ballot: b, Entry: e}
}

func numbers() []int {
	return []int{math.MinInt, math.MinInt + 1, -2, -1, 0, 1, 2, 6, 7, api.MaxSeq - 1, api.MaxSeq, api.MaxSeq + 1, math.MaxInt - 1, math.MaxInt}
}

// The Round goes ahead of the Node; of any numbers, also such that no ballot may have.
func TestCompare(t *testing.T) {
	var rising []api.Ballot
	for _, r := range numbers() {
		for _, node := range numbers() {
			rising = append(rising, round(r, node))
		}
	}
	for i, a := range rising {
		for k, b := range rising {
			wanted := 0
			if i < k {
				wanted = -1
			} else if i > k {
				wanted = 1
			}
			if got := ballot.Compare(a, b); got != wanted {
				t.Fatalf("Compare(%v, %v): %d, not %d", a, b, got, wanted)
			}
		}
	}
}

func TestNext(t *testing.T) {
	for _, r := range numbers() {
		for _, of := range numbers() {
			for _, node := range append(numbers(), 3, 4, 5) {
				b := round(r, of)
				wanted, wantedErr := round(r+1, node), api.OK
				if r < 0 || r > 1<<31-2 {
					wanted, wantedErr = api.Ballot{}, api.ErrFull
				}
				if node < 0 || node > 6 {
					wanted, wantedErr = api.Ballot{}, api.ErrArg
				}
				if got, err := ballot.Next(b, node); got != wanted || err != wantedErr {
					t.Fatalf("Next(%v, %d): %v, %d, not %v, %d", b, node, got, err, wanted, wantedErr)
				}
			}
		}
	}
}

// P15.4: whatever node takes the next round, it is above.
func TestNextIsAbove(t *testing.T) {
	for _, r := range []int{0, 1, 2, 1000, api.MaxSeq - 2, api.MaxSeq - 1} {
		for of := range api.MaxNodes {
			for node := range api.MaxNodes {
				b := round(r, of)
				if next, err := ballot.Next(b, node); err != api.OK || ballot.Compare(next, b) != 1 || next.Node != node {
					t.Errorf("Next(%v, %d): %v, %d", b, node, next, err)
				}
			}
		}
	}
}

func TestQuorum(t *testing.T) {
	wanted := map[int]int{1: 1, 2: 2, 3: 2, 4: 3, 5: 3, 6: 4, 7: 4}
	for _, nodes := range append(numbers(), 3, 4, 5, 8, 14) {
		if got := ballot.Quorum(nodes); got != wanted[nodes] {
			t.Errorf("Quorum(%d): %d, not %d", nodes, got, wanted[nodes])
		}
	}
}

func wantPick(t *testing.T, what string, l []api.Voted, slot int, wanted api.Entry, is bool) {
	t.Helper()
	got, ok := ballot.Pick(l, slot)
	if len(got.Seal.Cut) == 0 {
		got.Seal.Cut = nil
	}
	if !reflect.DeepEqual(got, wanted) || ok != is {
		t.Errorf("%s: Pick(%v, %d): %v, %v, not %v, %v", what, l, slot, got, ok, wanted, is)
	}
}

func TestPick(t *testing.T) {
	a, b, c := entry("a", 1, 2), entry("b"), entry("c", 0, 0, 3)
	wantPick(t, "of nothing", nil, 0, noop(), false)
	wantPick(t, "of the empty list", []api.Voted{}, 0, noop(), false)
	wantPick(t, "the example", []api.Voted{voted(2, round(1, 0), a), voted(2, round(1, 2), b)}, 2, b, true)
	wantPick(t, "the greater node first", []api.Voted{voted(2, round(1, 2), a), voted(2, round(1, 0), b)}, 2, a, true)
	wantPick(t, "the round goes ahead", []api.Voted{voted(2, round(1, 6), a), voted(2, round(2, 0), b)}, 2, b, true)
	wantPick(t, "others' slots", []api.Voted{voted(1, round(9, 0), a), voted(2, round(1, 0), c), voted(3, round(9, 6), b)}, 2, c, true)
	wantPick(t, "no vote of the slot", []api.Voted{voted(1, round(9, 0), a), voted(3, round(9, 6), b)}, 2, noop(), false)
	wantPick(t, "a vote for a Noop", []api.Voted{voted(1, round(1, 0), a), voted(1, round(1, 1), noop())}, 1, noop(), true)
	wantPick(t, "a vote in the empty ballot", []api.Voted{voted(0, api.Ballot{}, a)}, 0, a, true)
	wantPick(t, "a ballot below all", []api.Voted{voted(0, round(math.MinInt, math.MinInt), a)}, 0, a, true)
	wantPick(t, "slots that may not be", []api.Voted{voted(-1, round(1, 0), a), voted(math.MaxInt, round(1, 0), b)}, -1, a, true)
}

// Of several votes with the greatest ballot the first one in the list is taken.
func TestPickOfTheSameBallot(t *testing.T) {
	a, b, c := entry("a", 1), entry("b", 2), entry("c", 3)
	wantPick(t, "two", []api.Voted{voted(5, round(2, 1), a), voted(5, round(2, 1), b)}, 5, a, true)
	wantPick(t, "two, the other way", []api.Voted{voted(5, round(2, 1), b), voted(5, round(2, 1), a)}, 5, b, true)
	wantPick(t, "lesser ones between", []api.Voted{voted(5, round(1, 1), c), voted(5, round(2, 1), b), voted(5, round(2, 0), c), voted(5, round(2, 1), a)}, 5, b, true)
	wantPick(t, "a Noop first", []api.Voted{voted(5, round(2, 1), noop()), voted(5, round(2, 1), a)}, 5, noop(), true)
	wantPick(t, "another slot first", []api.Voted{voted(4, round(2, 1), c), voted(5, round(2, 1), b), voted(5, round(2, 1), a)}, 5, b, true)
}

func TestSlots(t *testing.T) {
	for _, x := range []struct{ slots, wanted []int }{
		{nil, nil},
		{[]int{0}, []int{0}},
		{[]int{4, 4, 1}, []int{1, 4}},
		{[]int{3, 2, 1, 2, 3, 1}, []int{1, 2, 3}},
		{[]int{api.MaxSeq, 0, api.MaxSeq}, []int{0, api.MaxSeq}},
		{[]int{0, math.MaxInt, -1, math.MinInt, 0, -1}, []int{math.MinInt, -1, 0, math.MaxInt}},
	} {
		var l []api.Voted
		for i, slot := range x.slots {
			l = append(l, voted(slot, round(i, 0), entry("t")))
		}
		if got := ballot.Slots(l); !slices.Equal(got, x.wanted) {
			t.Errorf("Slots of %v: %v, not %v", x.slots, got, x.wanted)
		}
	}
}

// Pick and Slots by the document's words alone, on random lists with many votes of the same slots and ballots.
func TestOfRandomVotes(t *testing.T) {
	rng := rand.New(rand.NewSource(1))
	for range 2000 {
		var l []api.Voted
		for i := range rng.Intn(12) {
			l = append(l, voted(rng.Intn(4), round(rng.Intn(3), rng.Intn(3)), entry(fmt.Sprint(i), i+1)))
		}
		var slots []int
		for slot := range 4 {
			of := slices.DeleteFunc(slices.Clone(l), func(v api.Voted) bool { return v.Slot != slot })
			if len(of) == 0 {
				wantPick(t, "none", l, slot, noop(), false)
				continue
			}
			slots = append(slots, slot)
			first := slices.IndexFunc(of, func(v api.Voted) bool {
				return !slices.ContainsFunc(of, func(w api.Voted) bool {
					return w.Ballot.Round > v.Ballot.Round || w.Ballot.Round == v.Ballot.Round && w.Ballot.Node > v.Ballot.Node
				})
			})
			wantPick(t, "the first of the greatest", l, slot, of[first].Entry, true)
		}
		if got := ballot.Slots(l); !slices.Equal(got, slots) {
			t.Fatalf("Slots(%v): %v, not %v", l, got, slots)
		}
	}
}

// What is handed in is not changed, nor is it in what is answered.
func TestNothingIsShared(t *testing.T) {
	made := func() []api.Voted {
		room := []api.Voted{voted(2, round(1, 0), entry("a", 1, 2)), voted(1, round(3, 0), entry("b", 3)), voted(2, round(2, 0), entry("c", 4, 5, 6)), voted(0, round(9, 6), entry("d", 7))}
		room[2].Entry.Seal.Cut = room[2].Entry.Seal.Cut[:2]
		return room[:3]
	}
	l := made()
	first, _ := ballot.Pick(l, 2)
	second, _ := ballot.Pick(l, 2)
	for i := range first.Seal.Cut {
		first.Seal.Cut[i] = 99
	}
	first.Seal.Cut = append(first.Seal.Cut, 99)
	slots := ballot.Slots(l)
	slots[0] = 99
	slots = append(slots, 99)
	if wanted := made(); !reflect.DeepEqual(l[:4], wanted[:4]) || l[2].Entry.Seal.Cut[:3][2] != 6 {
		t.Errorf("the list is %v, not %v", l[:4], wanted[:4])
	}
	l[2].Entry.Seal.Cut[0] = 98
	if !slices.Equal(second.Seal.Cut, []int{4, 5}) {
		t.Error("what was answered is", second)
	}
}
