package router_test

import (
	"fmt"
	"hash/fnv"
	"math"
	"math/rand"
	"strings"
	"testing"

	"pannier/api"
	"pannier/router"
)

// names may be; others may not.
var (
	names  = []string{"c", "a", "z", "0", "9", "-", "a-0", "tea-2", strings.Repeat("x", api.MaxName)}
	others = []string{"", "A", "Z", "_", " ", "a b", "a/", "`", "{", ":", "/", ",", ".", "é", "\x00", "\xff", "tea\n", strings.Repeat("x", api.MaxName+1), strings.Repeat("x", 1000)}
)

// calls are one of each kind that may be.
func calls() []api.Call {
	return []api.Call{
		{Kind: api.CallUpdate, Cart: "c", Sku: "tea", Qty: 2},
		{Kind: api.CallRead, Cart: "c"},
		{Kind: api.CallCheckout, Cart: "c", Token: "t"},
		{Kind: api.CallStatus, Cart: "c", Token: "t"},
	}
}

func wantCheck(t *testing.T, c api.Call, wanted api.Errno) {
	t.Helper()
	if err := router.Check(c); err != wanted {
		t.Errorf("Check(%+v): %d, not %d", c, err, wanted)
	}
}

func TestCheckKinds(t *testing.T) {
	for _, c := range calls() {
		wantCheck(t, c, api.OK)
		for _, kind := range []int{0, 5, 6, -1, -4, 255, 256 + c.Kind, 1<<32 + c.Kind, math.MaxInt, math.MinInt} {
			full := api.Call{Kind: kind, Cart: "c", Sku: "tea", Token: "t"}
			wantCheck(t, full, api.ErrCall)
		}
	}
	wantCheck(t, api.Call{}, api.ErrCall)
}

func TestCheckCarts(t *testing.T) {
	for _, c := range calls() {
		for _, name := range names {
			c.Cart = name
			wantCheck(t, c, api.OK)
		}
		for _, name := range others {
			c.Cart = name
			wantCheck(t, c, api.ErrCall)
		}
	}
}

// TestCheckSkus: those of updates are names, those of others say nothing.
func TestCheckSkus(t *testing.T) {
	for _, c := range calls() {
		for _, name := range names {
			c.Sku = name
			wantCheck(t, c, api.OK)
		}
		for _, name := range others {
			c.Sku = name
			wantCheck(t, c, refusedOf(c, api.CallUpdate))
		}
	}
}

// TestCheckTokens: those of checkouts and statuses are names, those of others say nothing.
func TestCheckTokens(t *testing.T) {
	for _, c := range calls() {
		for _, name := range names {
			c.Token = name
			wantCheck(t, c, api.OK)
		}
		for _, name := range others {
			c.Token = name
			wantCheck(t, c, refusedOf(c, api.CallCheckout, api.CallStatus))
		}
	}
}

func TestCheckQty(t *testing.T) {
	for _, c := range calls() {
		for _, qty := range []int{0, 1, api.MaxQty - 1, api.MaxQty} {
			c.Qty = qty
			wantCheck(t, c, api.OK)
		}
		for _, qty := range []int{-1, api.MaxQty + 1, math.MaxInt, math.MinInt, 1<<32 + 1} {
			c.Qty = qty
			wantCheck(t, c, refusedOf(c, api.CallUpdate))
		}
	}
}

// TestCheckRest: a call's Id, and whether it clears, say nothing.
func TestCheckRest(t *testing.T) {
	for _, c := range calls() {
		for _, id := range []int{0, -1, math.MaxInt, math.MinInt} {
			c.Id, c.Clears = id, true
			wantCheck(t, c, api.OK)
		}
	}
}

// refusedOf is ErrCall of calls of these kinds.
func refusedOf(c api.Call, kinds ...int) api.Errno {
	for _, kind := range kinds {
		if c.Kind == kind {
			return api.ErrCall
		}
	}
	return api.OK
}

func wantShard(t *testing.T, cart string, shards, wanted int) {
	t.Helper()
	if got := router.Shard(cart, shards); got != wanted {
		t.Errorf("Shard(%q, %d): %d, not %d", cart, shards, got, wanted)
	}
}

func TestShard(t *testing.T) {
	wantShard(t, "a", 4, 0)
	wantShard(t, "a", 1<<32, 0xE40C292C)
	wantShard(t, "a", math.MaxInt, 0xE40C292C)
	wantShard(t, "", 1<<32, 2166136261)
	wantShard(t, "foobar", 1<<32, 0xBF9CF968)
	for _, shards := range []int{0, -1, -4, -1 << 32, math.MinInt} {
		wantShard(t, "foobar", shards, 0)
	}
	wantShard(t, "foobar", 1, 0)
}

// TestShardOfAny: the hash that the library has, of texts of any bytes.
func TestShardOfAny(t *testing.T) {
	rng := rand.New(rand.NewSource(1))
	for range 5000 {
		b := make([]byte, rng.Intn(40))
		rng.Read(b)
		h := fnv.New32a()
		h.Write(b)
		shards := 1 + rng.Intn(api.MaxShards)
		wantShard(t, string(b), shards, int(h.Sum32())%shards)
	}
}

// TestShardsAreUsed: carts are in all shards.
func TestShardsAreUsed(t *testing.T) {
	for shards := 1; shards <= api.MaxShards; shards++ {
		count := make([]int, shards)
		for i := range 200 * shards {
			count[router.Shard(fmt.Sprint("cart-", i), shards)]++
		}
		for shard, n := range count {
			if n < 100 {
				t.Errorf("%d of %d carts are in shard %d of %d", n, 200*shards, shard, shards)
			}
		}
	}
}
