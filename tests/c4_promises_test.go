package tests

import (
	"testing"

	"loop.example/iceharvest/impl"
)

func TestPromise41CakesCanBeLeftOut(t *testing.T) {
	for _, list := range sampleTimes() {
		if !impl.ValidTimes(list) {
			t.Errorf("ValidTimes(%v) is false", list)
		}
		for i := range list {
			if less := timesWithout(list, i); !impl.ValidTimes(less) {
				t.Errorf("ValidTimes(%v) is false, but not ValidTimes(%v)", less, list)
			}
		}
	}
}

func TestPromise42LiftsTakeTheirTime(t *testing.T) {
	for _, list := range sampleTimes() {
		for _, gap := range sampleGaps() {
			for _, lifts := range allLifts() {
				checkLifting(t, list, gap, lifts, impl.LiftTimes(list, gap, lifts))
			}
		}
	}
}

// checkLifting checks that each cake is lifted as soon as a lift can take it, and no sooner.
func checkLifting(t *testing.T, list []int, gap int, lifts int, got []int) {
	if want := liftedByTicks(list, gap, lifts); !sameInts(got, want) {
		t.Fatalf("LiftTimes(%v, %d, %d) = %v, not %v", list, gap, lifts, got, want)
	}
	for i, lifted := range got {
		if lifted < list[i] || i > 0 && lifted < got[i-1] {
			t.Fatalf("LiftTimes(%v, %d, %d) = %v", list, gap, lifts, got)
		}
		if countWithin(got, lifted, lifted+gap) > lifts {
			t.Fatalf("LiftTimes(%v, %d, %d) = %v: too many from %d on", list, gap, lifts, got, lifted)
		}
	}
}

// countWithin returns how many numbers of a list are at least low and less than high.
func countWithin(list []int, low int, high int) int {
	count := 0
	for _, number := range list {
		if number >= low && number < high {
			count++
		}
	}
	return count
}

func TestPromise43LiftsInTurnAreLiftsAlone(t *testing.T) {
	for _, list := range sampleTimes() {
		for _, gap := range sampleGaps() {
			for _, lifts := range allLifts() {
				for from := 0; from < lifts; from++ {
					checkLiftAlone(t, list, gap, lifts, from)
				}
			}
		}
	}
}

func checkLiftAlone(t *testing.T, list []int, gap int, lifts int, from int) {
	all := impl.LiftTimes(list, gap, lifts)
	alone := impl.LiftTimes(impl.EveryOf(list, lifts, from), gap, 1)
	if !sameInts(alone, everyNth(all, lifts, from)) {
		t.Fatalf("lift %d of %d alone: %v, with the others: %v", from, lifts, alone, all)
	}
	// Times of lifting that are too late are no valid times for EveryOf.
	if lastOf(all) <= impl.MaxTime && !sameInts(alone, impl.EveryOf(all, lifts, from)) {
		t.Fatalf("EveryOf(%v, %d, %d) = %v", all, lifts, from, impl.EveryOf(all, lifts, from))
	}
}

func TestPromise44OneLiftIsAsLateAsItsBusiestHours(t *testing.T) {
	for _, list := range sampleTimes() {
		for _, gap := range sampleGaps() {
			got := impl.LiftTimes(list, gap, 1)
			if len(got) != len(list) {
				t.Fatalf("LiftTimes(%v, %d, 1) = %v", list, gap, got)
			}
			for i := range list {
				if want := busiestHours(list[:i+1], gap); got[i] != want {
					t.Fatalf("LiftTimes(%v, %d, 1) = %v, not %d at %d", list, gap, got, want, i)
				}
			}
		}
	}
}

// busiestHours returns the greatest one of the times at which a cake comes and the gaps from it on up to the last cake.
func busiestHours(list []int, gap int) int {
	latest := 0
	for i, time := range list {
		late := time + gap*(len(list)-1-i)
		if late > latest {
			latest = late
		}
	}
	return latest
}

func TestPromise45MoreLiftsWaitLess(t *testing.T) {
	for _, list := range sampleTimes() {
		for gap := 1; gap <= impl.MaxGap; gap++ {
			for _, lifts := range allLifts() {
				waits := impl.WaitsOf(list, gap, lifts)
				checkWaits(t, list, impl.LiftTimes(list, gap, lifts), waits)
				if lifts < impl.MaxLifts {
					checkNowhereMore(t, impl.WaitsOf(list, gap, lifts+1), waits)
				}
				if gap < impl.MaxGap {
					checkNowhereMore(t, waits, impl.WaitsOf(list, gap+1, lifts))
				}
			}
		}
	}
}

// checkWaits checks that waits are the times from coming to being lifted.
func checkWaits(t *testing.T, list []int, lifted []int, waits []int) {
	if len(waits) != len(list) || len(lifted) != len(list) {
		t.Fatalf("cakes %v: lifted %v, waits %v", list, lifted, waits)
	}
	for i := range waits {
		if waits[i] < 0 || list[i]+waits[i] != lifted[i] {
			t.Fatalf("cakes %v: lifted %v, waits %v", list, lifted, waits)
		}
	}
}

func checkNowhereMore(t *testing.T, less []int, more []int) {
	if len(less) != len(more) {
		t.Fatalf("waits %v and %v", less, more)
	}
	for i := range less {
		if less[i] > more[i] {
			t.Fatalf("waits %v, but %v", less, more)
		}
	}
}

func TestPromise46WaitingAddsUp(t *testing.T) {
	for _, list := range sampleTimes() {
		for _, gap := range []int{1, 3, 50, impl.MaxGap} {
			for _, lifts := range []int{1, 2, 3, impl.MaxLifts} {
				sum := 0
				for then := 0; then <= lastOf(impl.LiftTimes(list, gap, lifts)); then++ {
					sum += impl.WaitingAt(list, gap, lifts, then)
				}
				if want := sumOf(impl.WaitsOf(list, gap, lifts)); sum != want {
					t.Fatalf("cakes %v, gap %d, %d lifts: %d ticks, not %d", list, gap, lifts, sum, want)
				}
			}
		}
	}
}

func TestPromise47TheMostAreAtSomeTime(t *testing.T) {
	for _, list := range sampleTimes() {
		for _, gap := range []int{1, 2, 3, 50, impl.MaxGap} {
			for _, lifts := range []int{1, 2, 5, impl.MaxLifts} {
				checkMostWaiting(t, list, gap, lifts)
			}
		}
	}
}

// checkMostWaiting checks that the most cakes wait at some time, just when a cake comes, and at no other time more.
func checkMostWaiting(t *testing.T, list []int, gap int, lifts int) {
	most := impl.MostWaiting(list, gap, lifts)
	lifted := impl.LiftTimes(list, gap, lifts)
	greatest := 0
	for then := -1; then <= lastOf(lifted)+1; then++ {
		waiting := impl.WaitingAt(list, gap, lifts, then)
		if want := waitingByLists(list, lifted, then); waiting != want {
			t.Fatalf("WaitingAt(%v, %d, %d, %d) = %d, not %d", list, gap, lifts, then, waiting, want)
		}
		if waiting > greatest {
			greatest = waiting
		}
	}
	if most != greatest {
		t.Fatalf("MostWaiting(%v, %d, %d) = %d, not %d", list, gap, lifts, most, greatest)
	}
	if len(list) > 0 && !isWaitingWhenOneComes(list, gap, lifts, most) {
		t.Fatalf("MostWaiting(%v, %d, %d) = %d, but not when a cake comes", list, gap, lifts, most)
	}
}

// waitingByLists returns how many cakes more came up to a time than were lifted up to it.
func waitingByLists(list []int, lifted []int, then int) int {
	return countWithin(list, 0, then+1) - countWithin(lifted, 0, then+1)
}

func isWaitingWhenOneComes(list []int, gap int, lifts int, count int) bool {
	for _, time := range list {
		if impl.WaitingAt(list, gap, lifts, time) == count {
			return true
		}
	}
	return false
}

func TestPromise48TheFewestLiftsAreEnough(t *testing.T) {
	for _, list := range sampleTimes() {
		for _, gap := range sampleGaps() {
			for _, lifts := range allLifts() {
				longest := longestOf(impl.WaitsOf(list, gap, lifts))
				for _, wait := range []int{longest - 1, longest, longest + 1, 0, impl.MaxTime} {
					if wait >= 0 && wait <= impl.MaxTime {
						checkFewest(t, list, gap, wait)
					}
				}
			}
		}
	}
}

// longestOf returns the greatest one of some waits, 0 without them.
func longestOf(waits []int) int {
	longest := 0
	for _, wait := range waits {
		if wait > longest {
			longest = wait
		}
	}
	return longest
}

func checkFewest(t *testing.T, list []int, gap int, wait int) {
	least := impl.LeastLifts(list, gap, wait)
	if least == -1 {
		if longestOf(impl.WaitsOf(list, gap, impl.MaxLifts)) <= wait {
			t.Fatalf("LeastLifts(%v, %d, %d) = -1", list, gap, wait)
		}
		return
	}
	if least < 1 || least > impl.MaxLifts || longestOf(impl.WaitsOf(list, gap, least)) > wait {
		t.Fatalf("LeastLifts(%v, %d, %d) = %d", list, gap, wait, least)
	}
	if least > 1 && longestOf(impl.WaitsOf(list, gap, least-1)) <= wait {
		t.Fatalf("LeastLifts(%v, %d, %d) = %d, but one less is enough", list, gap, wait, least)
	}
}

func TestPromise49TheLongestGapIsInTime(t *testing.T) {
	for _, list := range sampleTimes() {
		for _, gap := range sampleGaps() {
			for _, lifts := range allLifts() {
				last := lastOf(impl.LiftTimes(list, gap, lifts))
				for _, by := range []int{last - 1, last, last + 1, lastOf(list) - 1, lastOf(list), leastInt, greatestInt} {
					checkLongestGap(t, list, lifts, by)
				}
			}
		}
	}
}

func checkLongestGap(t *testing.T, list []int, lifts int, by int) {
	greatest := impl.GreatestGap(list, lifts, by)
	if greatest == -1 {
		if isInTime(list, 1, lifts, by) {
			t.Fatalf("GreatestGap(%v, %d, %d) = -1", list, lifts, by)
		}
		return
	}
	if greatest < 1 || greatest > impl.MaxGap || !isInTime(list, greatest, lifts, by) {
		t.Fatalf("GreatestGap(%v, %d, %d) = %d", list, lifts, by, greatest)
	}
	if greatest < impl.MaxGap && isInTime(list, greatest+1, lifts, by) {
		t.Fatalf("GreatestGap(%v, %d, %d) = %d, but 1 more is in time", list, lifts, by, greatest)
	}
}

// isInTime reports whether all cakes are lifted at a time or before.
func isInTime(list []int, gap int, lifts int, by int) bool {
	for _, lifted := range impl.LiftTimes(list, gap, lifts) {
		if lifted > by {
			return false
		}
	}
	return true
}

func TestPromise50MergedTimesAreAllTimes(t *testing.T) {
	for _, a := range sampleTimes() {
		for _, b := range sampleTimes() {
			got, ok := impl.MergeTimes(a, b)
			if len(a)+len(b) > impl.MaxCakes {
				if ok || len(got) != 0 {
					t.Fatalf("MergeTimes(%v, %v) = %v, %t", a, b, got, ok)
				}
				continue
			}
			if want := ascending(append(copyInts(a), b...)); !ok || !sameInts(got, want) || !impl.ValidTimes(got) {
				t.Fatalf("MergeTimes(%v, %v) = %v, %t, not %v", a, b, got, ok, want)
			}
			if back, backOk := impl.MergeTimes(b, a); !backOk || !sameInts(back, got) {
				t.Fatalf("MergeTimes(%v, %v) = %v, but the other way round %v", a, b, got, back)
			}
		}
	}
}

func TestPromise51CakesOfOnePondWaitNoLongerAlone(t *testing.T) {
	for _, a := range sampleTimes() {
		for _, b := range sampleTimes() {
			if len(a)+len(b) > impl.MaxCakes {
				continue
			}
			merged, _ := impl.MergeTimes(a, b)
			for _, gap := range []int{1, 3, 50, impl.MaxGap} {
				for _, lifts := range []int{1, 2, impl.MaxLifts} {
					last := lastOf(impl.LiftTimes(merged, gap, lifts))
					if last < lastOf(impl.LiftTimes(a, gap, lifts)) || last < lastOf(impl.LiftTimes(b, gap, lifts)) {
						t.Fatalf("cakes %v and %v, gap %d, %d lifts: the last one at %d", a, b, gap, lifts, last)
					}
				}
			}
		}
	}
}

func TestPromise52TurnsShareAllCakes(t *testing.T) {
	for _, list := range sampleTimes() {
		for _, n := range allLifts() {
			shared := []int{}
			for from := 0; from < n; from++ {
				turn := impl.EveryOf(list, n, from)
				if !impl.ValidTimes(turn) || !sameInts(turn, everyNth(list, n, from)) {
					t.Fatalf("EveryOf(%v, %d, %d) = %v", list, n, from, turn)
				}
				shared = append(shared, turn...)
			}
			if !sameInts(ascending(shared), list) {
				t.Fatalf("%d turns of %v have %v", n, list, shared)
			}
		}
	}
}

func TestPromise53IdleLiftsWaitForCakes(t *testing.T) {
	for _, list := range sampleTimes() {
		if len(list) == 0 {
			continue
		}
		for gap := 1; gap <= impl.MaxGap; gap++ {
			got := impl.IdleOf(list, gap)
			if want := idleByTicks(list, gap); got != want || got < list[0] {
				t.Fatalf("IdleOf(%v, %d) = %d, not %d", list, gap, got, want)
			}
			first := repeated(list[0], len(list))
			if idle := impl.IdleOf(first, gap); idle != list[0] {
				t.Fatalf("IdleOf(%v, %d) = %d", first, gap, idle)
			}
		}
	}
}

// idleByTicks returns how many ticks before the last cake is lifted are not within the gap after another one.
func idleByTicks(list []int, gap int) int {
	lifted := liftedByTicks(list, gap, 1)
	idle := 0
	for t := 0; t < lastOf(lifted); t++ {
		if countWithin(lifted, t-gap+1, t+1) == 0 {
			idle++
		}
	}
	return idle
}
