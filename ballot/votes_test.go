package ballot_test

import (
	"math"
	"math/rand"
	"slices"
	"testing"

	"pannier/api"
	"pannier/ballot"
)

func newVotes(t *testing.T, nodes int, voters ...int) *ballot.Votes {
	t.Helper()
	v, err := ballot.NewVotes(nodes)
	if v == nil || err != api.OK {
		t.Fatalf("NewVotes(%d): %v, %d", nodes, v, err)
	}
	for _, node := range voters {
		if !v.Add(node) {
			t.Fatalf("Add(%d) of %d nodes", node, nodes)
		}
	}
	return v
}

func wantVotes(t *testing.T, v *ballot.Votes, enough bool, wanted ...int) {
	t.Helper()
	if got := v.All(); !slices.Equal(got, wanted) || v.Count() != len(wanted) || v.Enough() != enough {
		t.Errorf("votes: %v, %d, %v, not %v, %d, %v", got, v.Count(), v.Enough(), wanted, len(wanted), enough)
	}
	for _, node := range append(numbers(), 3, 4, 5) {
		if v.Has(node) != slices.Contains(wanted, node) {
			t.Errorf("Has(%d) of %v: %v", node, wanted, v.Has(node))
		}
	}
}

func TestNewVotes(t *testing.T) {
	for _, nodes := range append(numbers(), 3, 4, 5, 8) {
		v, err := ballot.NewVotes(nodes)
		if nodes < 1 || nodes > 7 {
			if v != nil || err != api.ErrArg {
				t.Errorf("NewVotes(%d): %v, %d", nodes, v, err)
			}
			continue
		}
		if v == nil || err != api.OK {
			t.Fatalf("NewVotes(%d): %v, %d", nodes, v, err)
		}
		wantVotes(t, v, false)
	}
}

// Each node votes once; one that there is not never does.
func TestAdd(t *testing.T) {
	v := newVotes(t, 5)
	for _, node := range []int{-1, 5, 6, 7, math.MinInt, math.MaxInt} {
		if v.Add(node) {
			t.Errorf("Add(%d) of 5 nodes", node)
		}
	}
	wantVotes(t, v, false)
	for i, x := range []struct {
		node   int
		added  bool
		enough bool
		all    []int
	}{
		{4, true, false, []int{4}}, {4, false, false, []int{4}}, {0, true, false, []int{0, 4}}, {5, false, false, []int{0, 4}}, {4, false, false, []int{0, 4}},
		{2, true, true, []int{0, 2, 4}}, {0, false, true, []int{0, 2, 4}}, {1, true, true, []int{0, 1, 2, 4}}, {3, true, true, []int{0, 1, 2, 3, 4}}, {3, false, true, []int{0, 1, 2, 3, 4}},
	} {
		if got := v.Add(x.node); got != x.added {
			t.Errorf("Add(%d), the vote %d: %v", x.node, i, got)
		}
		wantVotes(t, v, x.enough, x.all...)
	}
}

// Of even numbers of nodes one half is not enough.
func TestEnough(t *testing.T) {
	for nodes, needed := range []int{1: 1, 2: 2, 3: 2, 4: 3, 5: 3, 6: 4, 7: 4} {
		if nodes == 0 {
			continue
		}
		v := newVotes(t, nodes)
		for node := range nodes {
			if v.Enough() != (node >= needed) {
				t.Errorf("%d of %d nodes: %v", node, nodes, v.Enough())
			}
			v.Add(nodes - 1 - node)
		}
		if !v.Enough() {
			t.Errorf("all of %d nodes are not enough", nodes)
		}
	}
}

// P15.4, of all pairs of sets of voters; and what is enough is just what Quorum says.
func TestMajoritiesMeet(t *testing.T) {
	for nodes := 1; nodes <= api.MaxNodes; nodes++ {
		var majorities []*ballot.Votes
		for set := range 1 << nodes {
			v := newVotes(t, nodes)
			var voters []int
			for node := range nodes {
				if set>>node&1 == 1 {
					voters = append(voters, node)
					v.Add(node)
				}
			}
			wantVotes(t, v, len(voters) >= ballot.Quorum(nodes), voters...)
			if v.Enough() {
				majorities = append(majorities, v)
			}
		}
		for _, a := range majorities {
			for _, b := range majorities {
				if !slices.ContainsFunc(a.All(), b.Has) {
					t.Errorf("of %d nodes: %v and %v", nodes, a.All(), b.All())
				}
			}
		}
		if len(majorities) == 0 {
			t.Errorf("of %d nodes: no majority", nodes)
		}
	}
}

func TestForkOfVotes(t *testing.T) {
	v := newVotes(t, 3, 1)
	other := v.Fork()
	other.Add(2)
	v.Add(0)
	third := other.Fork()
	third.Add(0)
	wantVotes(t, v, true, 0, 1)
	wantVotes(t, other, true, 1, 2)
	wantVotes(t, third, true, 0, 1, 2)
	if other.Add(3) || !newVotes(t, 4).Fork().Add(3) {
		t.Error("a fork has as many nodes")
	}
}

// What All answers is new each time.
func TestAllIsNew(t *testing.T) {
	v := newVotes(t, 7, 6, 0, 3)
	first := v.All()
	for i := range first {
		first[i] = 5
	}
	first = append(first, 5)
	wantVotes(t, v, false, 0, 3, 6)
}

// Votes that no call made are as nil ones.
func TestNilVotes(t *testing.T) {
	for _, v := range []*ballot.Votes{nil, {}} {
		for _, node := range numbers() {
			if v.Add(node) || v.Has(node) {
				t.Errorf("Add, Has of %d", node)
			}
		}
		wantVotes(t, v, false)
		if v.Fork() != nil {
			t.Error("Fork")
		}
	}
}

// Whatever is added, one behind the other, it is a set.
func TestVotesAsASet(t *testing.T) {
	for seed := range int64(200) {
		rng := rand.New(rand.NewSource(seed))
		nodes := 1 + rng.Intn(7)
		v, set := newVotes(t, nodes), map[int]bool{}
		for range 20 {
			node := rng.Intn(11) - 2
			wanted := 0 <= node && node < nodes && !set[node]
			if v.Add(node) != wanted {
				t.Fatalf("seed %d: Add(%d) of %v, not %v", seed, node, set, wanted)
			}
			if wanted {
				set[node] = true
			}
			var all []int
			for node := range nodes {
				if set[node] {
					all = append(all, node)
				}
			}
			wantVotes(t, v, 2*len(set) > nodes, all...)
			if rng.Intn(5) == 0 {
				v = v.Fork()
			}
		}
	}
}
