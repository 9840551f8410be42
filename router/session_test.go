package router_test

import (
	"fmt"
	"math"
	"math/rand"
	"testing"

	"pannier/api"
	"pannier/codec"
	"pannier/router"
)

func session(t *testing.T, client, nodes int) *router.Session {
	t.Helper()
	s, err := router.New(client, nodes)
	if s == nil || err != api.OK {
		t.Fatalf("New(%d, %d): %v, %d", client, nodes, s, err)
	}
	return s
}

// wantSession looks at all that a session tells without going on.
func wantSession(t *testing.T, what string, s *router.Session, last string, target, tries int) {
	t.Helper()
	if s.Last() != last || s.Target() != target || s.Tries() != tries {
		t.Errorf("%s: Last %q, Target %d, Tries %d, not %q, %d, %d", what, s.Last(), s.Target(), s.Tries(), last, target, tries)
	}
}

func TestNew(t *testing.T) {
	for _, client := range []int{0, 1, 6, 7, 8, 1000, api.MaxSeq - 1, api.MaxSeq} {
		for nodes := 1; nodes <= api.MaxNodes; nodes++ {
			wantSession(t, "a new one", session(t, client, nodes), "", client%nodes, 0)
		}
	}
}

func TestNewRefuses(t *testing.T) {
	for _, x := range [][2]int{{-1, 3}, {api.MaxSeq + 1, 3}, {math.MaxInt, 3}, {math.MinInt, 3}, {7, 0}, {7, -1}, {7, api.MaxNodes + 1}, {7, math.MaxInt}, {7, math.MinInt}, {-1, 0}} {
		if s, err := router.New(x[0], x[1]); s != nil || err != api.ErrArg {
			t.Errorf("New(%d, %d): %v, %d", x[0], x[1], s, err)
		}
	}
}

func TestToken(t *testing.T) {
	s := session(t, 7, 3)
	for i := range 12 {
		wanted := fmt.Sprint("c7-", i)
		if got := s.Token(); got != wanted {
			t.Errorf("Token: %q, not %q", got, wanted)
		}
		wantSession(t, "behind a token", s, wanted, 1, 0)
		wantSession(t, "and again", s, wanted, 1, 0)
	}
}

// TestTokenAndTries: neither hangs on the other.
func TestTokenAndTries(t *testing.T) {
	s := session(t, 0, 2)
	wantSession(t, "at first", s, "", 0, 0)
	s.Fail()
	wantSession(t, "Fail", s, "", 1, 1)
	s.Token()
	wantSession(t, "Token", s, "c0-0", 1, 1)
	s.Fail()
	wantSession(t, "Fail", s, "c0-0", 0, 2)
	s.Done()
	wantSession(t, "Done", s, "c0-0", 0, 0)
	s.Done()
	wantSession(t, "Done again", s, "c0-0", 0, 0)
	s.Fail()
	s.Token()
	wantSession(t, "Fail, Token", s, "c0-1", 1, 1)
}

func TestFailGoesRound(t *testing.T) {
	for nodes := 1; nodes <= api.MaxNodes; nodes++ {
		for client := range nodes {
			s := session(t, client, nodes)
			for i := 1; i <= 3*nodes+1; i++ {
				s.Fail()
				wantSession(t, "Fail", s, "", (client+i)%nodes, i)
			}
			s.Done()
			wantSession(t, "Done", s, "", (client+3*nodes+1)%nodes, 0)
		}
	}
}

// TestAllTargets: within as many Fails as there are nodes each one is the target, from wherever.
func TestAllTargets(t *testing.T) {
	for nodes := 1; nodes <= api.MaxNodes; nodes++ {
		for _, client := range []int{0, 5, api.MaxSeq} {
			s := session(t, client, nodes)
			for range nodes {
				seen := map[int]bool{}
				for range nodes {
					s.Fail()
					seen[s.Target()] = true
				}
				for id := range nodes {
					if !seen[id] {
						t.Errorf("node %d of %d is no target", id, nodes)
					}
				}
				s.Fail()
				s.Done()
			}
		}
	}
}

// TestTokensAreUnlike: also those of clients whose numbers begin alike; each may be a name.
func TestTokensAreUnlike(t *testing.T) {
	whose := map[string]string{}
	for _, client := range []int{0, 1, 2, 10, 11, 12, 21, 100, 101, 110, 111, 121, 211, 1000, api.MaxSeq / 10, api.MaxSeq - 1, api.MaxSeq} {
		s := session(t, client, 3)
		for i := range 1200 {
			token := s.Token()
			me := fmt.Sprint(client, " ", i)
			if other, is := whose[token]; is {
				t.Fatalf("%q is that of %s and of %s", token, other, me)
			}
			whose[token] = me
			if !codec.Name(token) {
				t.Fatalf("%q may not be a name", token)
			}
		}
	}
}

// TestSessionsApart: what one does is nothing to another one of the same client.
func TestSessionsApart(t *testing.T) {
	a, b := session(t, 4, 5), session(t, 4, 5)
	a.Token()
	a.Fail()
	wantSession(t, "the other one", b, "", 4, 0)
	if b.Token() != "c4-0" {
		t.Error("the other one's first token:", b.Last())
	}
}

// TestAnySession: any calls, against a plain count.
func TestAnySession(t *testing.T) {
	for seed := range int64(200) {
		rng := rand.New(rand.NewSource(seed))
		client, nodes := rng.Intn(api.MaxSeq), 1+rng.Intn(api.MaxNodes)
		s := session(t, client, nodes)
		tokens, fails, tries, last := 0, 0, 0, ""
		for range 100 {
			switch rng.Intn(4) {
			case 0:
				last = fmt.Sprintf("c%d-%d", client, tokens)
				tokens++
				if got := s.Token(); got != last {
					t.Fatalf("Token: %q, not %q", got, last)
				}
			case 1, 2:
				s.Fail()
				fails, tries = fails+1, tries+1
			case 3:
				s.Done()
				tries = 0
			}
			wantSession(t, "any", s, last, (client+fails)%nodes, tries)
		}
	}
}

func TestNoSession(t *testing.T) {
	for _, s := range []*router.Session{nil, {}} {
		s.Fail()
		s.Done()
		if token := s.Token(); token != "" {
			t.Errorf("Token: %q", token)
		}
		s.Fail()
		wantSession(t, "of none", s, "", 0, 0)
	}
}
