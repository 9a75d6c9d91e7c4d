package tests

import (
	"testing"

	"loop.example/iceharvest/impl"
)

// callRound calls every function of the layer.
func callRound(list []impl.Customer, start int, order []int) {
	impl.ValidCustomers(list)
	impl.VisitTimes(list, start, order)
	impl.LateBy(list, start, order)
	impl.LeastLate(list, start)
	impl.CanServe(list, start)
	impl.LoadFor(list, start, order, 5)
	impl.LoadFor(list, start, order, 0)
	impl.Sweep(list)
	impl.ShortestRound(list, start)
}

func TestRoundsWriteIntoNoArgument(t *testing.T) {
	streets := append(fewStreets(), largeStreets()...)
	for _, list := range append(streets, badStreets()...) {
		before := copyCustomers(list)
		for _, start := range []int{0, -impl.MaxStreet, impl.MaxStreet, impl.MaxStreet + 1} {
			for _, order := range [][]int{countTo(len(list)), reversed(countTo(len(list))), repeated(0, len(list))} {
				same := copyInts(order)
				callRound(list, start, order)
				if !sameCustomers(list, before) || !sameInts(order, same) {
					t.Fatalf("%v became %v, or the order %v became %v", before, list, same, order)
				}
			}
		}
	}
}

// customersWithin returns a list of which the first three are valid customers, with others behind them.
func customersWithin() []impl.Customer {
	return append(threeCustomers(), impl.Customer{At: 77}, impl.Customer{Due: 78})
}

// orderWithin returns a list that begins with an order of three customers, with other numbers behind it.
func orderWithin() []int {
	return []int{1, 0, 2, 77, 78}
}

func TestRoundsWriteBehindNoArgument(t *testing.T) {
	whole := customersWithin()
	order := orderWithin()
	for n := 0; n <= 3; n++ {
		callRound(whole[:n], 0, order[:n])
		callRound(whole[:n], 0, order[:3])
	}
	if !sameCustomers(whole, customersWithin()) || !sameInts(order, orderWithin()) {
		t.Errorf("behind the arguments there is %v and %v", whole, order)
	}
}

// roundListsOf returns all lists that the functions of the layer return of customers and an order.
func roundListsOf(list []impl.Customer, order []int) [][]int {
	return [][]int{
		impl.VisitTimes(list, 0, order), impl.VisitTimes(list, -100, order),
		impl.LeastLate(list, 0), impl.LeastLate(list, 100),
		impl.Sweep(list),
	}
}

func TestRoundListsAreNewMemory(t *testing.T) {
	whole := customersWithin()
	order := orderWithin()
	for _, n := range []int{0, 2, 3} {
		first := roundListsOf(whole[:n], order[:n])
		second := roundListsOf(whole[:n], order[:n])
		for i := range first {
			checkOwnMemory(t, first[i], second[i])
		}
		if !sameCustomers(whole, customersWithin()) || !sameInts(order, orderWithin()) {
			t.Fatalf("a list of %d customers shares memory with an argument: %v, %v", n, whole, order)
		}
	}
}

func TestRoundListsOfOneListShareNoMemory(t *testing.T) {
	whole := customersWithin()
	order := orderWithin()
	again := roundListsOf(whole[:3], order[:3])
	lists := roundListsOf(whole[:3], order[:3])
	for i := range lists {
		overwrite(lists[i])
		for j := i + 1; j < len(lists); j++ {
			if !sameInts(lists[j], again[j]) {
				t.Fatalf("list %d shares memory with list %d: %v", j, i, lists[j])
			}
		}
	}
	for i, got := range roundListsOf(whole[:3], order[:3]) {
		if !sameInts(got, again[i]) {
			t.Errorf("list %d is kept: %v", i, got)
		}
	}
}

func TestRoundsKeepNoArgument(t *testing.T) {
	list := threeCustomers()
	order := []int{1, 0, 2}
	times := impl.VisitTimes(list, 0, order)
	best := impl.LeastLate(list, 0)
	sweep := impl.Sweep(list)
	list[2].At = -10
	order[0] = 2
	order[2] = 1
	if !sameInts(times, []int{3, 11, 16}) || !sameInts(best, []int{1, 0, 2}) || !sameInts(sweep, []int{1, 0, 2}) {
		t.Errorf("an argument is kept: %v, %v, %v", times, best, sweep)
	}
	checkTimes(t, list, 0, order, 10, 25, 33)
	checkLeastLate(t, list, 0, 1, 0, 2)
	checkSweep(t, list, 2, 1, 0)
	checkServed(t, list, 0, true)
	checkShortest(t, list, 0, 20)
	checkLoad(t, list, 0, order, 5, 13)
}
