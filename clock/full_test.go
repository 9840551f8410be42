package clock

import (
	"testing"

	"pannier/api"
)

// Ticks up to MaxClock would be too many for a test: the clocks are set instead.
func TestFull(t *testing.T) {
	sets := []struct {
		time, first, second int
		tick                int
		on                  []int
		wanted              api.Errno
	}{
		{api.MaxClock - 5, 0, 0, 5, []int{5, 5}, api.OK},
		{api.MaxClock - 5, 0, 0, 6, []int{6, 6}, api.ErrFull},
		{0, api.MaxClock - 5, 0, 5, []int{5, 5}, api.OK},
		{0, api.MaxClock - 5, 0, 5, []int{6, 5}, api.ErrFull},
		{0, 0, api.MaxClock - 5, 5, []int{5, 5}, api.OK},
		{0, 0, api.MaxClock - 5, 5, []int{5, 6}, api.ErrFull},
		{api.MaxClock, api.MaxClock, api.MaxClock, 0, []int{0, 0}, api.OK},
		{api.MaxClock, api.MaxClock, api.MaxClock, 1, []int{0, 0}, api.ErrFull},
		{api.MaxClock, 0, 0, 1, []int{0}, api.ErrArg},
		{api.MaxClock, 0, 0, -1, []int{0, 0}, api.ErrArg},
	}
	for _, s := range sets {
		c, _ := New(2)
		c.time, c.now[0], c.now[1] = s.time, s.first, s.second
		err := c.Tick(s.tick, s.on)
		if err != s.wanted {
			t.Errorf("Tick of %v: %d", s, err)
		}
		if err != api.OK && (c.time != s.time || c.Now(0) != s.first || c.Now(1) != s.second || !c.Keeps(0)) {
			t.Errorf("Tick of %v was refused, and counts", s)
		}
		if err == api.OK && (c.time != s.time+s.tick || c.Now(0) != s.first+s.on[0] || c.Now(1) != s.second+s.on[1]) {
			t.Errorf("Tick of %v does not count", s)
		}
	}
}
