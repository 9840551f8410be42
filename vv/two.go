package vv

// Merge answers the least vector that is above a and b, plain.
func Merge(a, b []int) []int {
	return joined(a, b, func(x, y int) int { return max(x, y) })
}

// Meet answers the greatest vector that is below a and b, plain.
func Meet(a, b []int) []int {
	return joined(a, b, func(x, y int) int { return min(x, y) })
}

// joined answers what pick makes of a's and b's numbers, place by place, plain.
func joined(a, b []int, pick func(x, y int) int) []int {
	v := make([]int, places(a, b))
	for origin := range len(v) {
		v[origin] = pick(Of(a, origin), Of(b, origin))
	}
	return cut(v)
}

// Below asks whether each of a's numbers is at most b's.
func Below(a, b []int) bool {
	for origin := range places(a, b) {
		if Of(a, origin) > Of(b, origin) {
			return false
		}
	}
	return true
}

// Compare answers 0, if a and b are the same; -1, if a is behind; 1, if b is; 2, if each has something that the other has not.
func Compare(a, b []int) int {
	below, above := Below(a, b), Below(b, a)
	switch {
	case below && above:
		return 0
	case below:
		return -1
	case above:
		return 1
	}
	return 2
}

// places is how many numbers the longer one has; behind these both have noughts alone.
func places(a, b []int) int {
	return max(len(a), len(b))
}
