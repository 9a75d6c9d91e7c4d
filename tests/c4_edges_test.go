package tests

import (
	"testing"

	"loop.example/iceharvest/impl"
)

func TestLiftConstants(t *testing.T) {
	if impl.MaxCakes != 40 || impl.MaxTime != 2000 || impl.MaxGap != 60 || impl.MaxLifts != 8 {
		t.Error("MaxCakes, MaxTime, MaxGap or MaxLifts")
	}
}

func TestValidTimesEdges(t *testing.T) {
	for _, list := range [][]int{nil, {}, {0}, {2000}, {5}, {5, 5}, {5, 6}, {0, 2000}, {0, 0, 2000, 2000}, repeated(0, 40), repeated(2000, 40), inTurn(40, 0, 51)} {
		if !impl.ValidTimes(list) {
			t.Errorf("ValidTimes(%v) is false", list)
		}
	}
	for _, list := range badTimes() {
		if impl.ValidTimes(list) {
			t.Errorf("ValidTimes(%v) is true", list)
		}
	}
}

func TestLiftTimesEdges(t *testing.T) {
	checkLifted(t, nil, 1, 1)
	checkLifted(t, nil, 60, 8)
	checkLifted(t, []int{0}, 60, 1, 0)
	checkLifted(t, []int{2000}, 60, 8, 2000)
	checkLifted(t, []int{7, 7}, 1, 1, 7, 8)
	checkLifted(t, []int{7, 7}, 60, 1, 7, 67)
	checkLifted(t, []int{0, 0, 0, 0, 0}, 4, 1, 0, 4, 8, 12, 16)
	checkLifted(t, []int{0, 0, 0, 0, 0}, 4, 2, 0, 0, 4, 4, 8)
	checkLifted(t, []int{0, 0, 1, 10}, 3, 1, 0, 3, 6, 10)
	checkLifted(t, []int{0, 0, 1, 10}, 3, 2, 0, 0, 3, 10)
	checkLifted(t, []int{0, 0, 1, 2}, 3, 3, 0, 0, 1, 3)
	checkLifted(t, []int{2000, 2000, 2000}, 60, 1, 2000, 2060, 2120)
	checkLifted(t, []int{1990, 2000}, 60, 1, 1990, 2050)
	checkLifted(t, []int{0, 1, 2, 3, 4}, 1, 1, 0, 1, 2, 3, 4)
}

func TestLiftTimesWhenALiftIsFree(t *testing.T) {
	// The second cake comes just when the lift is free, one tick sooner, and one tick later.
	checkLifted(t, []int{10, 15, 15}, 5, 1, 10, 15, 20)
	checkLifted(t, []int{10, 14, 14}, 5, 1, 10, 15, 20)
	checkLifted(t, []int{10, 16, 16}, 5, 1, 10, 16, 21)
	// The same of the third cake and two lifts.
	checkLifted(t, []int{10, 12, 15, 15}, 5, 2, 10, 12, 15, 17)
	checkLifted(t, []int{10, 12, 14, 15}, 5, 2, 10, 12, 15, 17)
	checkLifted(t, []int{10, 12, 16, 16}, 5, 2, 10, 12, 16, 17)
	// A lift that took its cake late is free late.
	checkLifted(t, []int{0, 0, 9, 11}, 5, 1, 0, 5, 10, 15)
	checkLifted(t, []int{0, 60, 120}, 60, 1, 0, 60, 120)
	checkLifted(t, []int{0, 59, 120}, 60, 1, 0, 60, 120)
	checkLifted(t, []int{0, 61, 120}, 60, 1, 0, 61, 121)
}

func TestLiftTimesOfManyLifts(t *testing.T) {
	list := []int{4, 4, 5}
	// As many lifts as cakes, and more: no cake waits.
	for lifts := 3; lifts <= impl.MaxLifts; lifts++ {
		checkLifted(t, list, 60, lifts, 4, 4, 5)
	}
	checkLifted(t, list, 60, 2, 4, 4, 64)
	checkLifted(t, repeated(9, 8), 60, 8, repeated(9, 8)...)
	checkLifted(t, repeated(9, 8), 60, 7, 9, 9, 9, 9, 9, 9, 9, 69)
	checkLifted(t, repeated(9, 9), 60, 8, 9, 9, 9, 9, 9, 9, 9, 9, 69)
	checkLifted(t, repeated(0, 40), 60, 1, inTurn(40, 0, 60)...)
	checkLifted(t, repeated(2000, 40), 60, 1, inTurn(40, 2000, 60)...)
	checkLifted(t, repeated(0, 40), 1, 1, inTurn(40, 0, 1)...)
	checkLifted(t, inTurn(40, 0, 51), 51, 1, inTurn(40, 0, 51)...)
	checkLifted(t, inTurn(40, 0, 51), 52, 1, inTurn(40, 0, 52)...)
	checkLifted(t, inTurn(40, 0, 51), 50, 1, inTurn(40, 0, 51)...)
}

func checkLifted(t *testing.T, list []int, gap int, lifts int, want ...int) {
	if got := impl.LiftTimes(list, gap, lifts); !sameInts(got, want) {
		t.Errorf("LiftTimes(%v, %d, %d) = %v, not %v", list, gap, lifts, got, want)
	}
	waits := []int{}
	for i := range want {
		waits = append(waits, want[i]-list[i])
	}
	if got := impl.WaitsOf(list, gap, lifts); !sameInts(got, waits) {
		t.Errorf("WaitsOf(%v, %d, %d) = %v, not %v", list, gap, lifts, got, waits)
	}
}

func TestWaitsOfEdges(t *testing.T) {
	a := []int{0, 0, 1, 10}
	for _, c := range [][]int{{1, 0, 3, 5, 0}, {2, 0, 0, 2, 0}, {3, 0, 0, 0, 0}, {4, 0, 0, 0, 0}, {8, 0, 0, 0, 0}} {
		if got := impl.WaitsOf(a, 3, c[0]); !sameInts(got, c[1:]) {
			t.Errorf("WaitsOf(%v, 3, %d) = %v", a, c[0], got)
		}
	}
	if got := impl.WaitsOf(repeated(5, 40), 60, 1); !sameInts(got, inTurn(40, 0, 60)) {
		t.Errorf("WaitsOf the most cakes = %v", got)
	}
	if got := impl.WaitsOf(nil, 3, 1); len(got) != 0 {
		t.Errorf("WaitsOf no cakes = %v", got)
	}
}

func TestWaitingAtEdges(t *testing.T) {
	// Lifted at 2, 5, 8 and 12: a cake does not wait any more at the time at which it is lifted.
	a := []int{2, 2, 3, 12}
	for _, c := range [][2]int{
		{leastInt, 0}, {-1, 0}, {0, 0}, {1, 0}, {2, 1}, {3, 2}, {4, 2}, {5, 1}, {7, 1}, {8, 0}, {11, 0}, {12, 0}, {13, 0}, {2001, 0}, {greatestInt, 0},
	} {
		checkWaiting(t, a, 3, 1, c[0], c[1])
	}
	// Lifted at 2, 2, 5 and 12.
	for _, c := range [][2]int{{1, 0}, {2, 0}, {3, 1}, {4, 1}, {5, 0}, {12, 0}} {
		checkWaiting(t, a, 3, 2, c[0], c[1])
	}
	for _, c := range []int{leastInt, -1, 0, 2, 3, 5, 12, greatestInt} {
		checkWaiting(t, a, 3, 8, c, 0)
		checkWaiting(t, nil, 3, 1, c, 0)
		checkWaiting(t, []int{2}, 60, 1, c, 0)
	}
}

func TestWaitingAtOfTheMostCakes(t *testing.T) {
	most := repeated(2000, 40)
	for _, c := range [][2]int{
		{leastInt, 0}, {1999, 0}, {2000, 39}, {2059, 39}, {2060, 38}, {2061, 38}, {4279, 2}, {4280, 1}, {4339, 1}, {4340, 0}, {4341, 0}, {greatestInt, 0},
	} {
		checkWaiting(t, most, 60, 1, c[0], c[1])
	}
	for _, c := range [][2]int{{1999, 0}, {2000, 32}, {2001, 24}, {2002, 16}, {2003, 8}, {2004, 0}} {
		checkWaiting(t, most, 1, 8, c[0], c[1])
	}
}

func checkWaiting(t *testing.T, list []int, gap int, lifts int, then int, want int) {
	if got := impl.WaitingAt(list, gap, lifts, then); got != want {
		t.Errorf("WaitingAt(%v, %d, %d, %d) = %d, not %d", list, gap, lifts, then, got, want)
	}
}

func TestMostWaitingEdges(t *testing.T) {
	checkWaitTogether(t, nil, 1, 1, 0)
	checkWaitTogether(t, nil, 60, 8, 0)
	checkWaitTogether(t, []int{0}, 60, 1, 0)
	checkWaitTogether(t, []int{2000}, 60, 1, 0)
	checkWaitTogether(t, []int{0, 0, 1, 10}, 3, 1, 2)
	checkWaitTogether(t, []int{0, 0, 1, 10}, 3, 2, 1)
	checkWaitTogether(t, []int{0, 0, 1, 10}, 3, 3, 0)
	checkWaitTogether(t, []int{0, 0, 1, 10}, 3, 8, 0)
	// Just as the lift is free, one tick sooner, and one tick later.
	checkWaitTogether(t, []int{10, 15}, 5, 1, 0)
	checkWaitTogether(t, []int{10, 14}, 5, 1, 1)
	checkWaitTogether(t, []int{10, 16}, 5, 1, 0)
	// The most wait in the middle, and at the end.
	checkWaitTogether(t, []int{0, 0, 50, 50, 50, 100}, 5, 1, 2)
	checkWaitTogether(t, []int{0, 50, 50, 100, 100, 100, 100}, 5, 1, 3)
	checkWaitTogether(t, inTurn(40, 0, 1), 2, 1, 20)
	checkWaitTogether(t, inTurn(40, 0, 1), 1, 1, 0)
	checkWaitTogether(t, repeated(0, 40), 60, 1, 39)
	checkWaitTogether(t, repeated(2000, 40), 1, 1, 39)
	checkWaitTogether(t, repeated(2000, 40), 60, 8, 32)
	checkWaitTogether(t, repeated(7, 8), 60, 8, 0)
	checkWaitTogether(t, repeated(7, 9), 60, 8, 1)
}

func checkWaitTogether(t *testing.T, list []int, gap int, lifts int, want int) {
	if got := impl.MostWaiting(list, gap, lifts); got != want {
		t.Errorf("MostWaiting(%v, %d, %d) = %d, not %d", list, gap, lifts, got, want)
	}
}

func TestLeastLiftsEdges(t *testing.T) {
	a := []int{0, 0, 1, 10}
	checkLeast(t, nil, 1, 0, 1)
	checkLeast(t, nil, 60, 2000, 1)
	checkLeast(t, []int{0}, 60, 0, 1)
	checkLeast(t, []int{2000}, 60, 0, 1)
	// Waits that are just long enough, and one tick too short.
	for _, c := range [][2]int{{0, 3}, {1, 3}, {2, 2}, {3, 2}, {4, 2}, {5, 1}, {6, 1}, {2000, 1}} {
		checkLeast(t, a, 3, c[0], c[1])
	}
	checkLeast(t, []int{10, 15}, 5, 0, 1)
	checkLeast(t, []int{10, 14}, 5, 0, 2)
	checkLeast(t, []int{10, 14}, 5, 1, 1)
	// As many lifts as cakes.
	checkLeast(t, repeated(9, 8), 1, 0, 8)
	checkLeast(t, repeated(9, 7), 60, 59, 7)
	checkLeast(t, repeated(9, 7), 60, 60, 4)
}

func TestLeastLiftsOfLongWaits(t *testing.T) {
	most := repeated(0, 40)
	for _, c := range [][2]int{{2000, 2}, {1140, 2}, {1139, 3}, {780, 3}, {779, 4}, {300, 7}, {299, 8}, {240, 8}} {
		checkLeast(t, most, 60, c[0], c[1])
	}
	// The last cake waits MaxTime, and one tick more.
	checkLeast(t, append(repeated(0, 34), 40), 60, 2000, 1)
	checkLeast(t, append(repeated(0, 34), 40), 60, 1999, 2)
	checkLeast(t, append(repeated(0, 34), 39), 60, 2000, 2)
	// A wait in the middle, and not the last one, is the longest.
	checkLeast(t, []int{0, 0, 0, 2000}, 7, 14, 1)
	checkLeast(t, []int{0, 0, 0, 2000}, 7, 13, 2)
	checkLeast(t, []int{0, 0, 0, 2000}, 7, 6, 3)
}

func TestLeastLiftsThatAreNotThere(t *testing.T) {
	checkLeast(t, repeated(0, 9), 5, 0, -1)
	checkLeast(t, repeated(0, 9), 5, 4, -1)
	checkLeast(t, repeated(0, 9), 5, 5, 5)
	checkLeast(t, repeated(0, 9), 1, 0, -1)
	checkLeast(t, repeated(2000, 40), 60, 239, -1)
	checkLeast(t, repeated(2000, 40), 60, 0, -1)
	checkLeast(t, repeated(2000, 40), 1, 3, -1)
	checkLeast(t, repeated(2000, 40), 1, 4, 8)
}

func checkLeast(t *testing.T, list []int, gap int, wait int, want int) {
	if got := impl.LeastLifts(list, gap, wait); got != want {
		t.Errorf("LeastLifts(%v, %d, %d) = %d, not %d", list, gap, wait, got, want)
	}
}

func TestGreatestGapEdges(t *testing.T) {
	a := []int{0, 0, 1, 10}
	for _, c := range [][2]int{{leastInt, -1}, {-1, -1}, {0, -1}, {9, -1}, {10, 3}, {11, 3}, {12, 4}, {14, 4}, {15, 5}, {179, 59}, {180, 60}, {181, 60}, {greatestInt, 60}} {
		checkGap(t, a, 1, c[0], c[1])
	}
	for _, c := range [][2]int{{9, -1}, {10, 10}, {11, 11}, {60, 60}, {59, 59}, {61, 60}} {
		checkGap(t, a, 2, c[0], c[1])
	}
	// As many lifts as cakes: none waits, so that each gap is in time.
	checkGap(t, a, 4, 10, 60)
	checkGap(t, a, 8, 10, 60)
	checkGap(t, a, 8, 9, -1)
	checkGap(t, []int{7}, 1, 7, 60)
	checkGap(t, []int{7}, 1, 6, -1)
	checkGap(t, []int{7}, 1, leastInt, -1)
	checkGap(t, []int{0}, 8, 0, 60)
	checkGap(t, []int{2000}, 1, 1999, -1)
	checkGap(t, []int{2000}, 1, 2000, 60)
}

func TestGreatestGapOfManyCakes(t *testing.T) {
	for _, c := range [][2]int{{leastInt, -1}, {0, -1}, {38, -1}, {39, 1}, {77, 1}, {78, 2}, {2339, 59}, {2340, 60}, {greatestInt, 60}} {
		checkGap(t, repeated(0, 40), 1, c[0], c[1])
		if c[0] > 0 && c[0] < greatestInt {
			checkGap(t, repeated(2000, 40), 1, 2000+c[0], c[1])
		}
	}
	for _, c := range [][2]int{{2003, -1}, {2004, 1}, {2007, 1}, {2008, 2}, {2239, 59}, {2240, 60}} {
		checkGap(t, repeated(2000, 40), 8, c[0], c[1])
	}
	// With a gap of 1 no cake waits, and so the last one comes too late.
	checkGap(t, inTurn(40, 0, 51), 1, 1988, -1)
	checkGap(t, inTurn(40, 0, 51), 1, 1989, 51)
	checkGap(t, inTurn(40, 0, 51), 1, 2027, 51)
	checkGap(t, inTurn(40, 0, 51), 1, 2028, 52)
}

func TestGreatestGapWithoutCakes(t *testing.T) {
	for _, lifts := range allLifts() {
		for _, by := range []int{leastInt, -1, 0, 1, 2000, greatestInt} {
			checkGap(t, nil, lifts, by, 60)
			checkGap(t, []int{}, lifts, by, 60)
		}
	}
}

func checkGap(t *testing.T, list []int, lifts int, by int, want int) {
	if got := impl.GreatestGap(list, lifts, by); got != want {
		t.Errorf("GreatestGap(%v, %d, %d) = %d, not %d", list, lifts, by, got, want)
	}
}

func TestMergeTimesEdges(t *testing.T) {
	checkMerged(t, nil, nil)
	checkMerged(t, []int{}, nil)
	checkMerged(t, []int{0}, nil, 0)
	checkMerged(t, nil, []int{2000}, 2000)
	checkMerged(t, nil, []int{1, 2, 2}, 1, 2, 2)
	checkMerged(t, []int{0, 5}, []int{3}, 0, 3, 5)
	checkMerged(t, []int{3}, []int{0, 5}, 0, 3, 5)
	checkMerged(t, []int{0, 1, 2}, []int{7, 8}, 0, 1, 2, 7, 8)
	checkMerged(t, []int{7, 8}, []int{0, 1, 2}, 0, 1, 2, 7, 8)
	checkMerged(t, []int{0, 4, 4, 2000}, []int{0, 0, 4, 5}, 0, 0, 0, 4, 4, 4, 5, 2000)
	checkMerged(t, []int{2000}, []int{0}, 0, 2000)
	list := []int{1, 6, 6}
	checkMerged(t, list, list, 1, 1, 6, 6, 6, 6)
}

func TestMergeTimesOfTheMostCakes(t *testing.T) {
	checkMerged(t, repeated(0, 40), nil, repeated(0, 40)...)
	checkMerged(t, nil, repeated(2000, 40), repeated(2000, 40)...)
	checkMerged(t, inTurn(20, 0, 2), inTurn(20, 1, 2), inTurn(40, 0, 1)...)
	checkMerged(t, inTurn(1, 0, 1), inTurn(39, 1, 1), inTurn(40, 0, 1)...)
	checkMerged(t, inTurn(39, 1, 1), inTurn(1, 0, 1), inTurn(40, 0, 1)...)
	half := repeated(7, 20)
	checkMerged(t, half, half, repeated(7, 40)...)
	checkNotMerged(t, repeated(0, 40), []int{0})
	checkNotMerged(t, []int{0}, repeated(0, 40))
	checkNotMerged(t, repeated(7, 20), repeated(7, 21))
	checkNotMerged(t, repeated(7, 21), repeated(7, 20))
	checkNotMerged(t, repeated(2000, 40), repeated(2000, 40))
}

func TestMergeTimesOfOtherTimes(t *testing.T) {
	for _, bad := range badTimes() {
		for _, good := range [][]int{nil, {0}, {3, 8}, repeated(2000, 40)} {
			checkNotMerged(t, bad, good)
			checkNotMerged(t, good, bad)
		}
		checkNotMerged(t, bad, bad)
	}
}

func checkMerged(t *testing.T, a []int, b []int, want ...int) {
	if got, ok := impl.MergeTimes(a, b); !ok || !sameInts(got, want) {
		t.Errorf("MergeTimes(%v, %v) = %v, %t, not %v", a, b, got, ok, want)
	}
}

func checkNotMerged(t *testing.T, a []int, b []int) {
	if got, ok := impl.MergeTimes(a, b); ok || len(got) != 0 {
		t.Errorf("MergeTimes(%v, %v) = %v, %t", a, b, got, ok)
	}
}

func TestEveryOfEdges(t *testing.T) {
	list := []int{0, 0, 1, 10}
	checkTurn(t, list, 1, 0, 0, 0, 1, 10)
	checkTurn(t, list, 2, 0, 0, 1)
	checkTurn(t, list, 2, 1, 0, 10)
	checkTurn(t, list, 3, 0, 0, 10)
	checkTurn(t, list, 3, 1, 0)
	checkTurn(t, list, 3, 2, 1)
	checkTurn(t, list, 4, 3, 10)
	// More lifts than cakes: each cake has its lift, and some lifts have none.
	for from, time := range list {
		checkTurn(t, list, 5, from, time)
		checkTurn(t, list, 8, from, time)
		checkTurn(t, list, 8, from+4)
	}
	checkTurn(t, list, 5, 4)
	checkTurn(t, []int{2000}, 1, 0, 2000)
	checkTurn(t, []int{2000}, 2, 0, 2000)
	checkTurn(t, []int{2000}, 2, 1)
	for from := 0; from < 8; from++ {
		checkTurn(t, nil, 8, from)
		checkTurn(t, inTurn(40, 0, 1), 8, from, inTurn(5, from, 8)...)
	}
	checkTurn(t, inTurn(40, 0, 1), 7, 4, inTurn(6, 4, 7)...)
	checkTurn(t, inTurn(40, 0, 1), 7, 5, inTurn(5, 5, 7)...)
}

func TestEveryOfOtherLifts(t *testing.T) {
	list := inTurn(40, 0, 1)
	for _, n := range badLifts() {
		for _, from := range []int{0, 1, -1, n, n - 1, n + 1, greatestInt, leastInt} {
			checkTurn(t, list, n, from)
		}
	}
	for _, n := range allLifts() {
		for _, from := range []int{-1, n, n + 1, -n, greatestInt, leastInt} {
			checkTurn(t, list, n, from)
			checkTurn(t, nil, n, from)
		}
	}
}

func checkTurn(t *testing.T, list []int, n int, from int, want ...int) {
	if got := impl.EveryOf(list, n, from); !sameInts(got, want) {
		t.Errorf("EveryOf(%v, %d, %d) = %v, not %v", list, n, from, got, want)
	}
}

func TestIdleOfEdges(t *testing.T) {
	checkIdle(t, nil, 1, 0)
	checkIdle(t, nil, 60, 0)
	checkIdle(t, []int{0}, 60, 0)
	checkIdle(t, []int{7}, 3, 7)
	checkIdle(t, []int{2000}, 1, 2000)
	checkIdle(t, []int{0, 0, 1, 10}, 3, 1)
	// Just when the lift is free, one tick sooner, and one tick later.
	checkIdle(t, []int{10, 15}, 5, 10)
	checkIdle(t, []int{10, 14}, 5, 10)
	checkIdle(t, []int{10, 16}, 5, 11)
	checkIdle(t, []int{0, 2000}, 60, 1940)
	checkIdle(t, []int{0, 2000}, 1, 1999)
	checkIdle(t, []int{5, 40, 40, 90}, 10, 60)
	// A lift that never waits after the first cake.
	checkIdle(t, []int{3, 4, 8, 13}, 5, 3)
	checkIdle(t, inTurn(40, 9, 51), 51, 9)
	checkIdle(t, inTurn(40, 9, 51), 52, 9)
	checkIdle(t, inTurn(40, 9, 51), 50, 48)
	checkIdle(t, repeated(0, 40), 60, 0)
	checkIdle(t, repeated(2000, 40), 60, 2000)
	checkIdle(t, repeated(2000, 40), 1, 2000)
}

func checkIdle(t *testing.T, list []int, gap int, want int) {
	if got := impl.IdleOf(list, gap); got != want {
		t.Errorf("IdleOf(%v, %d) = %d, not %d", list, gap, got, want)
	}
}

func TestLiftFunctionsOfOtherTimes(t *testing.T) {
	for _, list := range badTimes() {
		for _, lifts := range allLifts() {
			checkNoLifting(t, list, 1, lifts)
			checkNoLifting(t, list, impl.MaxGap, lifts)
			checkGap(t, list, lifts, 10, -1)
			checkGap(t, list, lifts, greatestInt, -1)
			checkTurn(t, list, lifts, 0)
			checkTurn(t, list, lifts, lifts-1)
		}
		for _, gap := range sampleGaps() {
			checkLeast(t, list, gap, 0, -1)
			checkLeast(t, list, gap, impl.MaxTime, -1)
			checkIdle(t, list, gap, -1)
		}
	}
}

func TestLiftFunctionsOfOtherGaps(t *testing.T) {
	for _, list := range [][]int{nil, {5}, {0, 0, 1, 10}, repeated(2000, 40)} {
		for _, gap := range badGaps() {
			checkNoLifting(t, list, gap, 1)
			checkNoLifting(t, list, gap, 8)
			checkLeast(t, list, gap, 0, -1)
			checkLeast(t, list, gap, impl.MaxTime, -1)
			checkIdle(t, list, gap, -1)
		}
	}
}

func TestLiftFunctionsOfOtherLiftsAndWaits(t *testing.T) {
	for _, list := range [][]int{nil, {5}, {0, 0, 1, 10}, repeated(2000, 40)} {
		for _, lifts := range badLifts() {
			checkNoLifting(t, list, 1, lifts)
			checkNoLifting(t, list, impl.MaxGap, lifts)
			checkGap(t, list, lifts, leastInt, -1)
			checkGap(t, list, lifts, 10, -1)
			checkGap(t, list, lifts, greatestInt, -1)
		}
		for _, wait := range badWaits() {
			checkLeast(t, list, 1, wait, -1)
			checkLeast(t, list, impl.MaxGap, wait, -1)
		}
	}
}

// checkNoLifting checks what the functions return for which no cakes are lifted so.
func checkNoLifting(t *testing.T, list []int, gap int, lifts int) {
	if got := impl.LiftTimes(list, gap, lifts); len(got) != 0 {
		t.Errorf("LiftTimes(%v, %d, %d) = %v", list, gap, lifts, got)
	}
	if got := impl.WaitsOf(list, gap, lifts); len(got) != 0 {
		t.Errorf("WaitsOf(%v, %d, %d) = %v", list, gap, lifts, got)
	}
	for _, then := range []int{leastInt, -1, 0, 5, 2000, greatestInt} {
		checkWaiting(t, list, gap, lifts, then, -1)
	}
	checkWaitTogether(t, list, gap, lifts, -1)
}
