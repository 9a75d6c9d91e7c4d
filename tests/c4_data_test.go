package tests

import "loop.example/iceharvest/impl"

// together returns lists of cakes that all come at the same time.
func together() [][]int {
	return [][]int{
		{0},
		{7},
		{impl.MaxTime},
		{0, 0},
		{5, 5, 5, 5, 5},
		repeated(0, impl.MaxLifts),
		repeated(3, impl.MaxLifts+1),
		repeated(1234, 17),
		repeated(0, impl.MaxCakes),
		repeated(impl.MaxTime, impl.MaxCakes),
	}
}

// sampleTimes returns valid times, of few and of many cakes, that come together, next to each other and far apart.
func sampleTimes() [][]int {
	list := [][]int{
		nil,
		{0, 0, 1, 10},
		{0, impl.MaxTime},
		{0, 1, 2, 3},
		{2, 5, 8, 11, 14},
		{2, 5, 7, 11, 15},
		{3, 3, 3, 9, 9, 9, 15, 15, 15},
		{0, 0, 60, 60, 119, 121, 180, 240},
		{0, 100, 100, 100, 100, 100, 100, 100, 100, 100, 100, 101},
		inTurn(impl.MaxCakes, 0, 1),
		inTurn(impl.MaxCakes, 50, 50),
		inTurn(19, impl.MaxTime-18*4, 4),
		ascending(spread(11, 1, 0, 40)),
		ascending(spread(25, 2, 100, 300)),
		ascending(spread(33, 3, 0, 900)),
		ascending(spread(impl.MaxCakes, 4, 0, 60)),
		ascending(spread(impl.MaxCakes, 5, 0, impl.MaxTime)),
		ascending(spread(impl.MaxCakes, 6, impl.MaxTime-200, impl.MaxTime)),
	}
	return append(list, together()...)
}

// badTimes returns times that are not valid, each list for one reason alone.
func badTimes() [][]int {
	return [][]int{
		{-1},
		{-1, 0, 5},
		{leastInt, 0},
		{impl.MaxTime + 1},
		{0, 5, impl.MaxTime + 1},
		{greatestInt},
		{1, 0},
		{2, 1},
		{0, 5, 4},
		{0, 5, 4, 5, 6},
		{3, 3, 2, 3},
		{impl.MaxTime, impl.MaxTime - 1},
		repeated(0, impl.MaxCakes+1),
		repeated(impl.MaxTime, impl.MaxCakes+1),
		inTurn(impl.MaxCakes+1, 0, 1),
		repeated(5, 10000),
	}
}

// sampleGaps returns short and long gaps, both limits among them.
func sampleGaps() []int {
	return []int{1, 2, 3, 4, 7, 25, 49, 50, 51, impl.MaxGap - 1, impl.MaxGap}
}

// badGaps returns numbers that are no gaps.
func badGaps() []int {
	return []int{0, -1, -impl.MaxGap, impl.MaxGap + 1, greatestInt, leastInt}
}

// allLifts returns all numbers of lifts.
func allLifts() []int {
	list := []int{}
	for lifts := 1; lifts <= impl.MaxLifts; lifts++ {
		list = append(list, lifts)
	}
	return list
}

// badLifts returns numbers that no lifts have.
func badLifts() []int {
	return []int{0, -1, -impl.MaxLifts, impl.MaxLifts + 1, greatestInt, leastInt}
}

// badWaits returns numbers that are no waits.
func badWaits() []int {
	return []int{-1, impl.MaxTime + 1, greatestInt, leastInt}
}

// inTurn returns the times of n cakes, each some ticks after the one before it.
func inTurn(n int, first int, ticks int) []int {
	list := make([]int, n)
	for i := range list {
		list[i] = first + i*ticks
	}
	return list
}

// ascending returns the numbers of a list from the least one to the greatest one.
func ascending(list []int) []int {
	out := copyInts(list)
	for i := range out {
		for j := i; j > 0 && out[j-1] > out[j]; j-- {
			number := out[j]
			out[j] = out[j-1]
			out[j-1] = number
		}
	}
	return out
}

// timesWithout returns the times of a list but one, in new memory.
func timesWithout(list []int, index int) []int {
	return append(copyInts(list[:index]), list[index+1:]...)
}

// everyNth returns the numbers of a list of which the indices leave a rest when divided by n.
func everyNth(list []int, n int, rest int) []int {
	out := []int{}
	for i, number := range list {
		if i%n == rest {
			out = append(out, number)
		}
	}
	return out
}

// lastOf returns the last number of a list, or -1.
func lastOf(list []int) int {
	if len(list) == 0 {
		return -1
	}
	return list[len(list)-1]
}

// liftedByTicks returns the times of a queue: with each tick, each free lift takes the first cake that waits.
func liftedByTicks(list []int, gap int, lifts int) []int {
	lifted := []int{}
	freeAt := make([]int, lifts)
	for t := 0; len(lifted) < len(list); t++ {
		for lift := range freeAt {
			if freeAt[lift] <= t && len(lifted) < len(list) && list[len(lifted)] <= t {
				lifted = append(lifted, t)
				freeAt[lift] = t + gap
			}
		}
	}
	return lifted
}
