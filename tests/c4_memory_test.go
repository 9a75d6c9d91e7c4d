package tests

import (
	"testing"

	"loop.example/iceharvest/impl"
)

// callLifts calls every function of the layer with one list, and with two.
func callLifts(list []int, other []int, gap int, lifts int) {
	impl.ValidTimes(list)
	impl.LiftTimes(list, gap, lifts)
	impl.WaitsOf(list, gap, lifts)
	impl.WaitingAt(list, gap, lifts, 5)
	impl.MostWaiting(list, gap, lifts)
	impl.LeastLifts(list, gap, 5)
	impl.GreatestGap(list, lifts, 100)
	impl.MergeTimes(list, other)
	impl.MergeTimes(other, list)
	impl.EveryOf(list, lifts, 0)
	impl.EveryOf(list, lifts, lifts-1)
	impl.IdleOf(list, gap)
}

func TestLiftsWriteIntoNoArgument(t *testing.T) {
	other := []int{0, 4, 4, 50}
	for _, list := range append(sampleTimes(), badTimes()...) {
		before := copyInts(list)
		for _, gap := range []int{1, 3, impl.MaxGap, 0} {
			for _, lifts := range []int{1, 2, impl.MaxLifts, 0} {
				callLifts(list, other, gap, lifts)
				callLifts(list, list, gap, lifts)
			}
		}
		if !sameInts(list, before) || !sameInts(other, []int{0, 4, 4, 50}) {
			t.Fatalf("%v became %v, or the other list %v", before, list, other)
		}
	}
}

// timesWithin returns a list of which the first four are valid times, with others behind them.
func timesWithin() []int {
	return []int{0, 0, 1, 10, 77, 78, 79}
}

// otherWithin returns a list of which the first two are valid times, with others behind them.
func otherWithin() []int {
	return []int{1, 12, 87, 88, 89}
}

func TestLiftsWriteBehindNoArgument(t *testing.T) {
	whole := timesWithin()
	other := otherWithin()
	for n := 0; n <= 4; n++ {
		callLifts(whole[:n], other[:2], 3, 2)
		callLifts(whole[:n], other[:0], 3, 1)
		// Two parts of the same list.
		callLifts(whole[:n], whole[n:4], 3, 8)
	}
	if !sameInts(whole, timesWithin()) || !sameInts(other, otherWithin()) {
		t.Errorf("the lists became %v and %v", whole, other)
	}
}

// listsOf returns all lists that the functions of the layer return of two lists.
func listsOf(a []int, b []int) [][]int {
	ab, _ := impl.MergeTimes(a, b)
	ba, _ := impl.MergeTimes(b, a)
	aa, _ := impl.MergeTimes(a, a)
	return [][]int{
		impl.LiftTimes(a, 3, 1), impl.LiftTimes(a, 3, 8),
		impl.WaitsOf(a, 3, 1), impl.WaitsOf(a, 3, 8),
		impl.EveryOf(a, 1, 0), impl.EveryOf(a, 2, 1), impl.EveryOf(a, 8, 7),
		ab, ba, aa,
	}
}

func TestLiftListsAreNewMemory(t *testing.T) {
	whole := timesWithin()
	other := otherWithin()
	for n := 0; n <= 4; n++ {
		for m := 0; m <= 2; m++ {
			first := listsOf(whole[:n], other[:m])
			second := listsOf(whole[:n], other[:m])
			for i := range first {
				checkOwnMemory(t, first[i], second[i])
			}
			if !sameInts(whole, timesWithin()) || !sameInts(other, otherWithin()) {
				t.Fatalf("a list of %d and %d times shares memory with an argument: %v, %v", n, m, whole, other)
			}
		}
	}
}

func TestLiftListsOfOneListShareNoMemory(t *testing.T) {
	lists := listsOf(timesWithin()[:4], otherWithin()[:2])
	for i := range lists {
		again := listsOf(timesWithin()[:4], otherWithin()[:2])
		overwrite(lists[i])
		for j := i + 1; j < len(lists); j++ {
			if !sameInts(lists[j], again[j]) {
				t.Fatalf("list %d shares memory with list %d: %v", j, i, lists[j])
			}
		}
	}
}

func TestLiftsKeepNoArgument(t *testing.T) {
	list := []int{0, 0, 1, 10}
	other := []int{1, 12}
	lifted := impl.LiftTimes(list, 3, 1)
	waits := impl.WaitsOf(list, 3, 1)
	turn := impl.EveryOf(list, 2, 0)
	merged, _ := impl.MergeTimes(list, other)
	list[2] = 9
	other[0] = 2
	if !sameInts(lifted, []int{0, 3, 6, 10}) || !sameInts(waits, []int{0, 3, 5, 0}) || !sameInts(turn, []int{0, 1}) || !sameInts(merged, []int{0, 0, 1, 1, 10, 12}) {
		t.Errorf("an argument is kept: %v, %v, %v, %v", lifted, waits, turn, merged)
	}
	lifted = impl.LiftTimes(list, 3, 1)
	waits = impl.WaitsOf(list, 3, 1)
	turn = impl.EveryOf(list, 2, 0)
	merged, _ = impl.MergeTimes(list, other)
	if !sameInts(lifted, []int{0, 3, 9, 12}) || !sameInts(waits, []int{0, 3, 0, 2}) || !sameInts(turn, []int{0, 9}) || !sameInts(merged, []int{0, 0, 2, 9, 10, 12}) {
		t.Errorf("a state is kept: %v, %v, %v, %v", lifted, waits, turn, merged)
	}
}
