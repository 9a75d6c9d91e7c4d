package tests

import (
	"testing"

	"loop.example/iceharvest/impl"
)

func TestPromise65CustomersCanBeServedElsewhere(t *testing.T) {
	for _, list := range append(fewStreets(), largeStreets()...) {
		if !impl.ValidCustomers(list) {
			t.Errorf("ValidCustomers(%v) is false", list)
		}
		for i := range list {
			if less := customersWithout(list, i); !impl.ValidCustomers(less) {
				t.Errorf("ValidCustomers(%v) is false, but not ValidCustomers(%v)", less, list)
			}
		}
	}
}

func TestPromise66WaysTakeTheirTime(t *testing.T) {
	for _, r := range sampleRounds() {
		for _, order := range ordersToTry(len(r.list)) {
			times := impl.VisitTimes(r.list, r.start, order)
			if want := timesByTicks(r.list, r.start, order); !sameInts(times, want) {
				t.Fatalf("VisitTimes(%v, %d, %v) = %v, not %v", r.list, r.start, order, times, want)
			}
			checkVisits(t, r, placesIn(r.list, order), times)
		}
	}
}

// checkVisits checks that each time is later by the distance, and no place is reached sooner than straight from the start.
func checkVisits(t *testing.T, r round, places []int, times []int) {
	at := r.start
	before := 0
	for visit, time := range times {
		if time < before || time-before != absolute(places[visit]-at) || time < absolute(places[visit]-r.start) {
			t.Fatalf("from %d to %v: %v", r.start, places, times)
		}
		at = places[visit]
		before = time
	}
}

func TestPromise67LateIsLate(t *testing.T) {
	for _, r := range append(sampleRounds(), tightRounds(fewStreets())...) {
		for _, order := range append(ordersToTry(len(r.list)), sweptByPlaces(r.list)) {
			late := impl.LateBy(r.list, r.start, order)
			if want := lateByTicks(r.list, r.start, order); late != want {
				t.Fatalf("LateBy(%v, %d, %v) = %d, not %d", r.list, r.start, order, late, want)
			}
			if (late == 0) != isInDue(r, order) {
				t.Fatalf("LateBy(%v, %d, %v) = %d", r.list, r.start, order, late)
			}
			if late := impl.LateBy(withoutHurry(r.list), r.start, order); late != 0 {
				t.Fatalf("LateBy(%v, %d, %v) = %d", withoutHurry(r.list), r.start, order, late)
			}
		}
	}
}

// isInDue reports whether no visit is later than Due.
func isInDue(r round, order []int) bool {
	for visit, time := range impl.VisitTimes(r.list, r.start, order) {
		if time > r.list[order[visit]].Due {
			return false
		}
	}
	return true
}

// withoutHurry returns the customers with the latest Dues.
func withoutHurry(list []impl.Customer) []impl.Customer {
	out := copyCustomers(list)
	for i := range out {
		out[i].Due = impl.MaxTime
	}
	return out
}

func TestPromise68NoOrderIsLessLate(t *testing.T) {
	for _, r := range roundsOf(fewStreets()) {
		best := impl.LeastLate(r.list, r.start)
		if want := leastByOrders(r.list, r.start); !sameInts(best, want) {
			t.Fatalf("LeastLate(%v, %d) = %v, not %v", r.list, r.start, best, want)
		}
		sweep := impl.Sweep(r.list)
		checkNotLater(t, r, best, sweep)
		checkNotLater(t, r, best, reversed(sweep))
		for i := range best {
			for j := 0; j < i; j++ {
				checkNotLater(t, r, best, exchanged(best, i, j))
				checkNotLater(t, r, best, exchanged(sweep, i, j))
			}
		}
	}
}

func TestPromise68NoOrderOfThreeIsLessLate(t *testing.T) {
	for _, r := range smallRounds() {
		if got, want := impl.LeastLate(r.list, r.start), leastByOrders(r.list, r.start); !sameInts(got, want) {
			t.Fatalf("LeastLate(%v, %d) = %v, not %v", r.list, r.start, got, want)
		}
	}
}

func checkNotLater(t *testing.T, r round, best []int, order []int) {
	least := impl.LateBy(r.list, r.start, best)
	if late := impl.LateBy(r.list, r.start, order); least < 0 || late < least {
		t.Fatalf("LateBy(%v, %d, %v) = %d, but %d of %v", r.list, r.start, order, late, least, best)
	}
}

// exchanged returns an order with two visits exchanged.
func exchanged(order []int, i int, j int) []int {
	out := copyInts(order)
	out[i] = order[j]
	out[j] = order[i]
	return out
}

func TestPromise69TwoWaysToServeAgree(t *testing.T) {
	rounds := append(roundsOf(fewStreets()), smallRounds()...)
	for _, r := range append(rounds, tightRounds(fewStreets())...) {
		served := impl.CanServe(r.list, r.start)
		late := impl.LateBy(r.list, r.start, impl.LeastLate(r.list, r.start))
		if served != (late == 0) || served != servedByOrders(r.list, r.start, 0) {
			t.Fatalf("CanServe(%v, %d) = %t, but the least lateness is %d", r.list, r.start, served, late)
		}
	}
}

func TestPromise69ManyCanBeServedIfSomeOrderIsInTime(t *testing.T) {
	for _, r := range append(roundsOf(largeStreets()), tightRounds(largeStreets())...) {
		if served := impl.CanServe(r.list, r.start); served != servedByOrders(r.list, r.start, 0) {
			t.Fatalf("CanServe(%v, %d) = %t", r.list, r.start, served)
		}
	}
}

func TestPromise70FewerCustomersAreServedToo(t *testing.T) {
	rounds := append(sampleRounds(), tightRounds(append(fewStreets(), largeStreets()...))...)
	count := 0
	for _, r := range append(rounds, smallRounds()...) {
		checkMirrored(t, r)
		if !impl.CanServe(r.list, r.start) {
			continue
		}
		count++
		for i := range r.list {
			if less := customersWithout(r.list, i); !impl.CanServe(less, r.start) {
				t.Fatalf("CanServe(%v, %d) is false, but with one more it is true", less, r.start)
			}
		}
	}
	if count < 1000 {
		t.Errorf("only %d rounds can be served", count)
	}
}

// checkMirrored checks that customers can be served exactly if they can with the whole street, or their side of the start, mirrored.
func checkMirrored(t *testing.T, r round) {
	served := impl.CanServe(r.list, r.start)
	if impl.CanServe(mirrored(r.list, 0), -r.start) != served {
		t.Fatalf("CanServe(%v, %d) = %t, but not mirrored", r.list, r.start, served)
	}
	around := mirrored(r.list, r.start)
	if impl.ValidCustomers(around) && impl.CanServe(around, r.start) != served {
		t.Fatalf("CanServe(%v, %d) = %t, but not mirrored around the start", r.list, r.start, served)
	}
}

func TestPromise71LoadsAreEnough(t *testing.T) {
	for _, r := range sampleRounds() {
		wants := wantsOf(r.list)
		for _, order := range ordersToTry(len(r.list)) {
			last := lastTime(r, order)
			for _, every := range everysToTry(last) {
				load := impl.LoadFor(r.list, r.start, order, every)
				if load < wants || load > wants+last/every || every > last && load != wants {
					t.Fatalf("LoadFor(%v, %d, %v, %d) = %d", r.list, r.start, order, every, load)
				}
				if !isEnough(r, order, every, load) {
					t.Fatalf("LoadFor(%v, %d, %v, %d) = %d, which is not enough", r.list, r.start, order, every, load)
				}
			}
		}
	}
}

// everysToTry returns ticks in which a cake melts, those about a time among them.
func everysToTry(time int) []int {
	list := []int{}
	for _, every := range []int{1, 2, 3, 7, time/2 + 1, time - 1, time, time + 1, 100, impl.MaxTime} {
		if every >= 1 && every <= impl.MaxTime {
			list = append(list, every)
		}
	}
	return list
}

// lastTime returns the time of the last visit, 0 without customers.
func lastTime(r round, order []int) int {
	times := timesByTicks(r.list, r.start, order)
	if len(times) == 0 {
		return 0
	}
	return lastOf(times)
}

// isEnough reports whether a load is enough for all visits, tick by tick, where a cake melts after each so many ticks.
func isEnough(r round, order []int, every int, load int) bool {
	times := timesByTicks(r.list, r.start, order)
	tick := 0
	for visit, i := range order {
		for ; tick < times[visit]; tick++ {
			if (tick+1)%every == 0 {
				load--
			}
		}
		load -= r.list[i].Want
		if load < 0 {
			return false
		}
	}
	return true
}

func TestPromise72ALoadIsNeededAtTheLastVisit(t *testing.T) {
	for _, r := range sampleRounds() {
		for _, order := range ordersToTry(len(r.list)) {
			last := lastTime(r, order)
			for _, every := range everysToTry(last) {
				load := impl.LoadFor(r.list, r.start, order, every)
				if want := wantsOf(r.list) + last/every; load != want {
					t.Fatalf("LoadFor(%v, %d, %v, %d) = %d, not %d", r.list, r.start, order, every, load, want)
				}
				if load > 0 && isEnough(r, order, every, load-1) {
					t.Fatalf("LoadFor(%v, %d, %v, %d) = %d, but 1 less is enough", r.list, r.start, order, every, load)
				}
			}
		}
	}
}

func TestPromise73SweepsGoAlongTheStreet(t *testing.T) {
	for _, list := range append(fewStreets(), largeStreets()...) {
		sweep := impl.Sweep(list)
		if want := sweptByPlaces(list); !sameInts(sweep, want) {
			t.Fatalf("Sweep(%v) = %v, not %v", list, sweep, want)
		}
		places := placesIn(list, sweep)
		if !sameInts(places, ascending(places)) {
			t.Errorf("Sweep(%v) = %v, to %v", list, sweep, places)
		}
		if len(list) > 0 {
			long := lastOf(places) - places[0]
			if got := lastOf(impl.VisitTimes(list, places[0], sweep)); got != long {
				t.Errorf("the sweep of %v takes %d, not %d", list, got, long)
			}
		}
	}
}

func TestPromise74TheShortestRoundIsARound(t *testing.T) {
	for _, r := range append(sampleRounds(), smallRounds()...) {
		if len(r.list) == 0 {
			continue
		}
		got := impl.ShortestRound(r.list, r.start)
		sweep := impl.Sweep(r.list)
		there := lastOf(impl.VisitTimes(r.list, r.start, sweep))
		back := lastOf(impl.VisitTimes(r.list, r.start, reversed(sweep)))
		if got > there || got > back || got != there && got != back {
			t.Fatalf("ShortestRound(%v, %d) = %d, but the sweeps take %d and %d", r.list, r.start, got, there, back)
		}
	}
}

func TestPromise74NoOrderIsShorter(t *testing.T) {
	for _, r := range append(sampleRounds(), smallRounds()...) {
		if got, want := impl.ShortestRound(r.list, r.start), shortestByOrders(r.list, r.start); got != want {
			t.Fatalf("ShortestRound(%v, %d) = %d, not %d", r.list, r.start, got, want)
		}
	}
}
