package clock

import (
	"slices"

	"pannier/api"
)

// thousandths are how far a clock goes on beside the time, as a part of it.
type thousandths int

const (
	whole thousandths = 1000
	none  thousandths = api.MaxDrift // more than any drift that may be
)

// integer is a kind of numbers that may be counted.
type integer interface {
	~int | ~int8 | ~int16 | ~int32 | ~int64 | ~uint | ~uint8 | ~uint16 | ~uint32 | ~uint64
}

// Keeps asks whether such a tick keeps the drift.
func Keeps(time int, on []int, drift int) bool {
	return mayTick(time, on) && mayDrift(drift) && needed(time, on) <= thousandths(drift)
}

// Trust answers how far a clock may go on until another one, which drifts the other way, may have gone on by lease.
func Trust(lease, drift int) int {
	if !within(lease, 1, api.MaxTick) || !mayDrift(drift) {
		return 0
	}
	slow, fast := whole-thousandths(drift), whole+thousandths(drift)
	return lease * int(slow) / int(fast)
}

// needed is the least drift that such a tick keeps; none, if it keeps no drift.
func needed(time int, on []int) thousandths {
	var most thousandths
	for _, a := range on {
		most = max(most, drifted(time, a))
	}
	return most
}

// drifted is the least drift that one clock keeps, which goes on by a in that time.
func drifted(time, a int) thousandths {
	off := apart(time, a)
	if off == 0 {
		return 0
	}
	if off >= time {
		return none // also of no time, in which no clock may go on
	}
	return thousandths(roundedUp(off*int(whole), time))
}

func mayTick(time int, on []int) bool {
	wrong := func(x int) bool { return !within(x, 0, api.MaxTick) }
	return !wrong(time) && !slices.ContainsFunc(on, wrong)
}

func mayDrift(drift int) bool {
	return within(thousandths(drift), 0, none-1)
}

func mayShow(now int) bool {
	return within(now, 0, api.MaxClock)
}

// within asks whether x is low to high.
func within[N integer](x, low, high N) bool {
	return low <= x && x <= high
}

// apart is by how much the greater one of two numbers is greater.
func apart[N integer](x, y N) N {
	return max(x, y) - min(x, y)
}

// roundedUp is x by y, the next whole number if it is none; neither is below 0, y not 0.
func roundedUp[N integer](x, y N) N {
	if x%y == 0 {
		return x / y
	}
	return x/y + 1
}
