package tests

const (
	greatestInt = 1<<63 - 1
	leastInt    = -1 << 63
)

// sameInts reports whether two lists have the same numbers in the same order.
func sameInts(a []int, b []int) bool {
	if len(a) != len(b) {
		return false
	}
	for i := range a {
		if a[i] != b[i] {
			return false
		}
	}
	return true
}

// copyInts returns a list with the same numbers in new memory.
func copyInts(list []int) []int {
	out := make([]int, len(list))
	copy(out, list)
	return out
}

// reversed returns the numbers of a list from the last one to the first one.
func reversed(list []int) []int {
	out := make([]int, len(list))
	for i := range list {
		out[len(list)-1-i] = list[i]
	}
	return out
}

// negated returns the numbers of a list with the other sign.
func negated(list []int) []int {
	out := make([]int, len(list))
	for i := range list {
		out[i] = -list[i]
	}
	return out
}

// repeated returns a list of n equal numbers.
func repeated(number int, n int) []int {
	out := make([]int, n)
	for i := range out {
		out[i] = number
	}
	return out
}

// spread returns n numbers in low..high that look irregular and are the same for the same seed.
func spread(n int, seed int, low int, high int) []int {
	out := make([]int, n)
	for i := range out {
		out[i] = low + (seed*7919+i*i*37+i*101)%(high-low+1)
	}
	return out
}

// absolute returns a number without its sign.
func absolute(n int) int {
	if n < 0 {
		return -n
	}
	return n
}
