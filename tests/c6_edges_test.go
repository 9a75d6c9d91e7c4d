package tests

import (
	"testing"

	"loop.example/iceharvest/impl"
)

func TestRoundConstants(t *testing.T) {
	if impl.MaxStreet != 100 || impl.MaxCustomers != 8 || impl.MaxWant != 50 || impl.MaxFew != 6 || impl.MaxTime != 2000 {
		t.Error("MaxStreet, MaxCustomers, MaxWant, MaxFew or MaxTime")
	}
}

func TestValidCustomersEdges(t *testing.T) {
	for _, list := range [][]impl.Customer{
		nil, {}, {{Want: 1}}, {{At: -100, Want: 50}}, {{At: 100, Due: 2000, Want: 1}}, {{At: -1, Due: 1, Want: 50}},
		threeCustomers(), customersAt(0, 5, 5), customersAt(2000, 1, 2, 3, 4, 5, 6, 7, 8), zigzag(),
	} {
		if !impl.ValidCustomers(list) {
			t.Errorf("ValidCustomers(%v) is false", list)
		}
	}
	for _, list := range badStreets() {
		if impl.ValidCustomers(list) {
			t.Errorf("ValidCustomers(%v) is true", list)
		}
	}
}

func TestValidCustomersLooksAtEachOne(t *testing.T) {
	for i := 0; i < impl.MaxCustomers; i++ {
		for _, bad := range badCustomers() {
			list := customersAt(9, 1, 2, 3, 4, 5, 6, 7, 8)
			list[i] = bad
			if impl.ValidCustomers(list) {
				t.Errorf("ValidCustomers is true with %v at %d", bad, i)
			}
			checkNoStreet(t, list, 0)
		}
	}
}

func TestVisitTimesEdges(t *testing.T) {
	checkTimes(t, nil, 0, nil)
	checkTimes(t, nil, -100, nil)
	checkTimes(t, customersAt(0, 0), 0, []int{0}, 0)
	checkTimes(t, customersAt(0, 7), 7, []int{0}, 0)
	checkTimes(t, customersAt(0, 7), 8, []int{0}, 1)
	checkTimes(t, customersAt(0, -100), 100, []int{0}, 200)
	checkTimes(t, customersAt(0, 100), -100, []int{0}, 200)
	checkTimes(t, customersAt(0, -100), -100, []int{0}, 0)
	checkTimes(t, threeCustomers(), 0, []int{0, 1, 2}, 5, 13, 26)
	checkTimes(t, threeCustomers(), 0, []int{0, 2, 1}, 5, 10, 23)
	checkTimes(t, threeCustomers(), 0, []int{1, 0, 2}, 3, 11, 16)
	checkTimes(t, threeCustomers(), 0, []int{1, 2, 0}, 3, 16, 21)
	checkTimes(t, threeCustomers(), 0, []int{2, 0, 1}, 10, 15, 23)
	checkTimes(t, threeCustomers(), 0, []int{2, 1, 0}, 10, 23, 31)
	checkTimes(t, threeCustomers(), -100, []int{1, 0, 2}, 97, 105, 110)
	checkTimes(t, threeCustomers(), 100, []int{1, 0, 2}, 103, 111, 116)
	// Visits at equal places, next to each other and not.
	checkTimes(t, customersAt(0, 4, 4, -1), 0, []int{0, 1, 2}, 4, 4, 9)
	checkTimes(t, customersAt(0, 4, 4, -1), 0, []int{0, 2, 1}, 4, 9, 14)
	checkTimes(t, customersAt(0, 0, 0, 0, 0, 0, 0), 0, []int{5, 4, 3, 2, 1, 0}, 0, 0, 0, 0, 0, 0)
	checkTimes(t, zigzag(), 0, zigzagOrder(), 1, 4, 10, 22, 46, 94, 190, 354)
	// The longest round.
	ends := customersAt(0, 100, -100, 100, -100, 100, -100, 100, -100)
	checkTimes(t, ends, -100, countTo(8), 200, 400, 600, 800, 1000, 1200, 1400, 1600)
}

func checkTimes(t *testing.T, list []impl.Customer, start int, order []int, want ...int) {
	if got := impl.VisitTimes(list, start, order); !sameInts(got, want) {
		t.Errorf("VisitTimes(%v, %d, %v) = %v, not %v", list, start, order, got, want)
	}
}

func TestLateByEdges(t *testing.T) {
	checkLate(t, nil, 0, nil, 0)
	checkLate(t, nil, 100, nil, 0)
	checkLate(t, threeCustomers(), 0, []int{1, 0, 2}, 0)
	checkLate(t, threeCustomers(), 0, []int{0, 1, 2}, 4)
	checkLate(t, threeCustomers(), 0, []int{0, 2, 1}, 14)
	checkLate(t, threeCustomers(), 0, []int{2, 1, 0}, 25)
	// A Due of 0 is met at the start alone.
	checkLate(t, customersAt(0, 7), 7, []int{0}, 0)
	checkLate(t, customersAt(0, 7), 6, []int{0}, 1)
	checkLate(t, customersAt(0, 7), 8, []int{0}, 1)
	checkLate(t, customersAt(0, -100), 100, []int{0}, 200)
	// Dues that are just met, missed by one tick, and met one tick before.
	checkLate(t, customersAt(10, 10), 0, []int{0}, 0)
	checkLate(t, customersAt(9, 10), 0, []int{0}, 1)
	checkLate(t, customersAt(11, 10), 0, []int{0}, 0)
	checkLate(t, []impl.Customer{{At: 5, Due: 5, Want: 1}, {At: -5, Due: 15, Want: 1}}, 0, []int{0, 1}, 0)
	checkLate(t, []impl.Customer{{At: 5, Due: 5, Want: 1}, {At: -5, Due: 14, Want: 1}}, 0, []int{0, 1}, 1)
	checkLate(t, []impl.Customer{{At: 5, Due: 4, Want: 1}, {At: -5, Due: 14, Want: 1}}, 0, []int{0, 1}, 2)
	// One who is visited early makes nobody else less late.
	checkLate(t, []impl.Customer{{At: 5, Due: 2000, Want: 1}, {At: -5, Due: 14, Want: 1}}, 0, []int{0, 1}, 1)
	checkLate(t, []impl.Customer{{At: 5, Due: 3, Want: 1}, {At: -5, Due: 2000, Want: 1}}, 0, []int{0, 1}, 2)
	checkLate(t, zigzag(), 0, zigzagOrder(), 0)
	ends := []int{100, -100, 100, -100, 100, -100, 100, -100}
	checkLate(t, customersAt(0, ends...), -100, countTo(8), 7200)
	checkLate(t, customersAt(1600, ends...), -100, countTo(8), 0)
	checkLate(t, customersAt(1599, ends...), -100, countTo(8), 1)
	checkLate(t, customersAt(impl.MaxTime, ends...), -100, countTo(8), 0)
}

func checkLate(t *testing.T, list []impl.Customer, start int, order []int, want int) {
	if got := impl.LateBy(list, start, order); got != want {
		t.Errorf("LateBy(%v, %d, %v) = %d, not %d", list, start, order, got, want)
	}
}

func TestLeastLateEdges(t *testing.T) {
	checkLeastLate(t, nil, 0)
	checkLeastLate(t, nil, 100)
	checkLeastLate(t, customersAt(0, 100), -100, 0)
	checkLeastLate(t, threeCustomers(), 0, 1, 0, 2)
	// From the left and from the right there is one way alone, and then any order is as late.
	checkLeastLate(t, customersAt(0, 3, 1, 2), 0, 1, 2, 0)
	checkLeastLate(t, customersAt(0, 3, 1, 2), 4, 0, 2, 1)
	checkLeastLate(t, customersAt(0, 100, -100), 100, 0, 1)
	checkLeastLate(t, customersAt(0, 100, -100), -100, 1, 0)
	// Someone far away is left for the end, although the Due is missed by more.
	checkLeastLate(t, []impl.Customer{{At: -50, Due: 0, Want: 1}, {At: 5, Due: 5, Want: 1}, {At: 6, Due: 6, Want: 1}}, 0, 1, 2, 0)
	// Six customers, all of whom are late, and seven, for whom there is no answer.
	checkLeastLate(t, customersAt(0, 6, 5, 4, 3, 2, 1), 0, 5, 4, 3, 2, 1, 0)
	checkLeastLate(t, customersAt(0, 6, 5, 4, 3, 2, 1), 7, 0, 1, 2, 3, 4, 5)
	checkLeastLate(t, customersAt(0, 7, 6, 5, 4, 3, 2, 1), 0)
	checkLeastLate(t, customersAt(impl.MaxTime, 7, 6, 5, 4, 3, 2, 1), 0)
	checkLeastLate(t, zigzag(), 0)
}

func TestLeastLateOfEqualOrders(t *testing.T) {
	// Nobody is late in any order.
	checkLeastLate(t, customersAt(impl.MaxTime, 6, -5, 4, -3, 2, -1), 0, 0, 1, 2, 3, 4, 5)
	checkLeastLate(t, customersAt(22, 6, -5), 0, 0, 1)
	// Both sides are as late.
	checkLeastLate(t, customersAt(0, 5, -5), 0, 0, 1)
	checkLeastLate(t, customersAt(0, -5, 5), 0, 0, 1)
	checkLeastLate(t, customersAt(0, 5, -5), -1, 1, 0)
	checkLeastLate(t, customersAt(0, 5, -5), 1, 0, 1)
	// Equal places, and the same first index with several second ones.
	checkLeastLate(t, customersAt(0, 7, 7, 7, 7, 7, 7), 0, 0, 1, 2, 3, 4, 5)
	checkLeastLate(t, customersAt(0, 7, 4, 7, 4, 7, 4), 0, 1, 3, 5, 0, 2, 4)
	checkLeastLate(t, customersAt(0, -1, 1, -1, 1), 0, 0, 2, 1, 3)
	checkLeastLate(t, customersAt(0, 4, 4, -1), 0, 2, 0, 1)
	checkLeastLate(t, customersAt(8, 5, 3, 4), 0, 0, 1, 2)
	checkLeastLate(t, customersAt(7, 5, 3, 4), 0, 0, 2, 1)
	checkLeastLate(t, customersAt(5, 5, 3, 4), 0, 1, 2, 0)
	checkLeastLate(t, []impl.Customer{{At: 5, Due: 7, Want: 1}, {At: 3, Due: 6, Want: 1}, {At: 4, Due: 4, Want: 1}}, 0, 1, 2, 0)
}

func checkLeastLate(t *testing.T, list []impl.Customer, start int, want ...int) {
	if got := impl.LeastLate(list, start); !sameInts(got, want) {
		t.Errorf("LeastLate(%v, %d) = %v, not %v", list, start, got, want)
	}
}

func TestCanServeEdges(t *testing.T) {
	checkServed(t, nil, 0, true)
	checkServed(t, nil, -100, true)
	checkServed(t, nil, 100, true)
	checkServed(t, customersAt(0, 0), 0, true)
	checkServed(t, customersAt(0, 0), 1, false)
	checkServed(t, customersAt(0, 0), -1, false)
	checkServed(t, customersAt(200, 100), -100, true)
	checkServed(t, customersAt(199, 100), -100, false)
	checkServed(t, customersAt(200, -100), 100, true)
	checkServed(t, customersAt(199, -100), 100, false)
	checkServed(t, customersAt(0, -100), -100, true)
	checkServed(t, threeCustomers(), 0, true)
	checkServed(t, threeCustomers(), 5, true)
	checkServed(t, threeCustomers(), 7, false)
	// Both sides, first one and then the other one.
	checkServed(t, customersAt(15, 5, -5), 0, true)
	checkServed(t, customersAt(14, 5, -5), 0, false)
	checkServed(t, customersAt(14, 5, -5), 1, true)
	checkServed(t, customersAt(14, 5, -5), -1, true)
	checkServed(t, customersAt(13, 5, -5), -1, false)
	// Customers at the start and at equal places.
	checkServed(t, []impl.Customer{{At: 9, Due: 2, Want: 1}, {At: 7, Due: 0, Want: 1}, {At: 7, Due: 0, Want: 1}}, 7, true)
	checkServed(t, []impl.Customer{{At: 5, Due: 2, Want: 1}, {At: 7, Due: 0, Want: 1}, {At: 7, Due: 0, Want: 1}}, 7, true)
	checkServed(t, []impl.Customer{{At: 4, Due: 4, Want: 1}, {At: 4, Due: 9, Want: 1}, {At: -1, Due: 9, Want: 1}}, 0, true)
	checkServed(t, []impl.Customer{{At: 4, Due: 4, Want: 1}, {At: 4, Due: 9, Want: 1}, {At: -1, Due: 8, Want: 1}}, 0, false)
	checkServed(t, []impl.Customer{{At: 4, Due: 6, Want: 1}, {At: 4, Due: 6, Want: 1}, {At: -1, Due: 1, Want: 1}}, 0, true)
	checkServed(t, []impl.Customer{{At: 4, Due: 5, Want: 1}, {At: 4, Due: 6, Want: 1}, {At: -1, Due: 1, Want: 1}}, 0, false)
	checkServed(t, []impl.Customer{{At: 4, Due: 6, Want: 1}, {At: 4, Due: 5, Want: 1}, {At: -1, Due: 1, Want: 1}}, 0, false)
	// Who is passed on the way is served then.
	checkServed(t, []impl.Customer{{At: 10, Due: 10, Want: 1}, {At: 5, Due: 5, Want: 1}, {At: 7, Due: 7, Want: 1}}, 0, true)
	checkServed(t, []impl.Customer{{At: 10, Due: 10, Want: 1}, {At: 5, Due: 4, Want: 1}, {At: 7, Due: 7, Want: 1}}, 0, false)
}

func TestCanServeOfTheMostCustomers(t *testing.T) {
	checkServed(t, zigzag(), 0, true)
	for i := range zigzag() {
		missed := zigzag()
		missed[i].Due--
		checkServed(t, missed, 0, false)
	}
	// From the other starts the first customer is visited as soon, or one tick too late.
	checkServed(t, zigzag(), 2, true)
	checkServed(t, zigzag(), 3, false)
	checkServed(t, zigzag(), -1, false)
	all := []int{0, 0, 0, 0, 0, 0, 0, 0}
	checkServed(t, customersAt(0, all...), 0, true)
	checkServed(t, customersAt(0, all...), 1, false)
	ends := []int{100, -100, 100, -100, 100, -100, 100, -100}
	checkServed(t, customersAt(200, ends...), 100, true)
	checkServed(t, customersAt(199, ends...), 100, false)
	checkServed(t, customersAt(300, ends...), 0, true)
	checkServed(t, customersAt(299, ends...), 0, false)
	checkServed(t, customersAt(80, 10, 70, 30, 50, 20, 80, 40, 60), 0, true)
	checkServed(t, customersAt(79, 10, 70, 30, 50, 20, 80, 40, 60), 0, false)
	checkServed(t, customersAt(80, -10, -70, -30, -50, -20, -80, -40, -60), 0, true)
	checkServed(t, customersAt(79, -10, -70, -30, -50, -20, -80, -40, -60), 0, false)
}

func checkServed(t *testing.T, list []impl.Customer, start int, want bool) {
	if got := impl.CanServe(list, start); got != want {
		t.Errorf("CanServe(%v, %d) = %t", list, start, got)
	}
}

func TestLoadForEdges(t *testing.T) {
	checkLoad(t, nil, 0, nil, 1, 0)
	checkLoad(t, nil, 100, nil, 2000, 0)
	checkLoad(t, customersAt(0, 0), 0, []int{0}, 1, 1)
	checkLoad(t, customersAt(0, 100), -100, []int{0}, 1, 201)
	checkLoad(t, threeCustomers(), 0, []int{1, 0, 2}, 1, 23)
	checkLoad(t, threeCustomers(), 0, []int{1, 0, 2}, 5, 10)
	checkLoad(t, threeCustomers(), 0, []int{2, 1, 0}, 5, 13)
	// A cake melts in just the time of the visit, in one tick more, and in half of it.
	checkLoad(t, threeCustomers(), 0, []int{1, 0, 2}, 16, 8)
	checkLoad(t, threeCustomers(), 0, []int{1, 0, 2}, 17, 7)
	checkLoad(t, threeCustomers(), 0, []int{1, 0, 2}, 15, 8)
	checkLoad(t, threeCustomers(), 0, []int{1, 0, 2}, 8, 9)
	checkLoad(t, threeCustomers(), 0, []int{1, 0, 2}, 9, 8)
	checkLoad(t, threeCustomers(), 0, []int{1, 0, 2}, 11, 8)
	checkLoad(t, threeCustomers(), 0, []int{1, 0, 2}, 2000, 7)
	// The least and the greatest Wants.
	checkLoad(t, []impl.Customer{{At: 1, Want: 1}, {At: 2, Want: 50}}, 0, []int{0, 1}, 1, 53)
	checkLoad(t, []impl.Customer{{At: 1, Want: 50}, {At: 2, Want: 1}}, 0, []int{0, 1}, 1, 53)
	checkLoad(t, []impl.Customer{{At: 1, Want: 50}, {At: 2, Want: 1}}, 0, []int{0, 1}, 2, 52)
	checkLoad(t, []impl.Customer{{At: 1, Want: 50}, {At: 2, Want: 1}}, 0, []int{0, 1}, 3, 51)
	most := customersAt(0, 100, -100, 100, -100, 100, -100, 100, -100)
	for i := range most {
		most[i].Want = impl.MaxWant
	}
	checkLoad(t, most, -100, countTo(8), 1, 2000)
	checkLoad(t, most, -100, countTo(8), 1600, 401)
	checkLoad(t, most, -100, countTo(8), 1601, 400)
	checkLoad(t, most, -100, countTo(8), 2000, 400)
	// Cakes melt in whole, and from the time 0 on alone, not anew after each visit.
	checkLoad(t, customersAt(0, 3, 6, 9), 0, []int{0, 1, 2}, 4, 8)
	checkLoad(t, customersAt(0, 3, 6, 9), 0, []int{0, 1, 2}, 5, 7)
}

func checkLoad(t *testing.T, list []impl.Customer, start int, order []int, every int, want int) {
	if got := impl.LoadFor(list, start, order, every); got != want {
		t.Errorf("LoadFor(%v, %d, %v, %d) = %d, not %d", list, start, order, every, got, want)
	}
}

func TestLoadForOfOtherEverys(t *testing.T) {
	for _, every := range badEverys() {
		checkLoad(t, nil, 0, nil, every, -1)
		checkLoad(t, threeCustomers(), 0, []int{1, 0, 2}, every, -1)
	}
}

func TestSweepEdges(t *testing.T) {
	checkSweep(t, nil)
	checkSweep(t, customersAt(0, 100), 0)
	checkSweep(t, threeCustomers(), 1, 0, 2)
	checkSweep(t, customersAt(0, 1, 2, 3), 0, 1, 2)
	checkSweep(t, customersAt(0, 3, 2, 1), 2, 1, 0)
	checkSweep(t, customersAt(0, 2, 3, 1), 2, 0, 1)
	checkSweep(t, customersAt(0, 100, -100, 0), 1, 2, 0)
	checkSweep(t, customersAt(0, -1, -2, 1, 2), 1, 0, 2, 3)
	// Equal places keep the order of the list.
	checkSweep(t, customersAt(0, 4, 4, -1), 2, 0, 1)
	checkSweep(t, customersAt(0, 4, -1, 4), 1, 0, 2)
	checkSweep(t, customersAt(0, 7, 7, 7, 7, 7, 7, 7, 7), 0, 1, 2, 3, 4, 5, 6, 7)
	checkSweep(t, customersAt(0, 2, 1, 2, 1, 2, 1, 2, 1), 1, 3, 5, 7, 0, 2, 4, 6)
	checkSweep(t, zigzag(), 3, 7, 1, 6, 2, 5, 4, 0)
	// Neither Due nor Want counts.
	checkSweep(t, []impl.Customer{{At: 5, Due: 9, Want: 9}, {At: 5, Due: 1, Want: 1}, {At: 4, Due: 20, Want: 20}}, 2, 0, 1)
}

func checkSweep(t *testing.T, list []impl.Customer, want ...int) {
	if got := impl.Sweep(list); !sameInts(got, want) {
		t.Errorf("Sweep(%v) = %v, not %v", list, got, want)
	}
}

func TestShortestRoundEdges(t *testing.T) {
	checkShortest(t, nil, 0, 0)
	checkShortest(t, nil, 7, 0)
	checkShortest(t, nil, -100, 0)
	checkShortest(t, nil, 100, 0)
	checkShortest(t, customersAt(0, 5), 5, 0)
	checkShortest(t, customersAt(0, 5), 4, 1)
	checkShortest(t, customersAt(0, 5), 6, 1)
	checkShortest(t, customersAt(0, 5, 5, 5), -5, 10)
	// The start is left of all customers, right of them, and at each of them.
	checkShortest(t, threeCustomers(), -10, 20)
	checkShortest(t, threeCustomers(), 20, 23)
	checkShortest(t, threeCustomers(), -3, 13)
	checkShortest(t, threeCustomers(), 10, 13)
	checkShortest(t, threeCustomers(), 5, 18)
	// Between them, nearer to one end, to the other one, and just in the middle.
	checkShortest(t, threeCustomers(), 0, 16)
	checkShortest(t, threeCustomers(), 3, 19)
	checkShortest(t, threeCustomers(), 4, 19)
	checkShortest(t, customersAt(0, -4, 4), 0, 12)
	// The ends of the street.
	checkShortest(t, threeCustomers(), -100, 110)
	checkShortest(t, threeCustomers(), 100, 103)
	checkShortest(t, customersAt(0, -100, 100), -100, 200)
	checkShortest(t, customersAt(0, -100, 100), 100, 200)
	checkShortest(t, customersAt(0, -100, 100), 0, 300)
	checkShortest(t, customersAt(0, 100), -100, 200)
	checkShortest(t, customersAt(0, -100), 100, 200)
	checkShortest(t, zigzag(), 0, 228)
	checkShortest(t, customersAt(impl.MaxTime, 100, -100, 100, -100, 100, -100, 100, -100), 1, 299)
}

func checkShortest(t *testing.T, list []impl.Customer, start int, want int) {
	if got := impl.ShortestRound(list, start); got != want {
		t.Errorf("ShortestRound(%v, %d) = %d, not %d", list, start, got, want)
	}
}

func TestRoundFunctionsOfOtherCustomers(t *testing.T) {
	for _, list := range badStreets() {
		for _, start := range startPlaces() {
			checkNoStreet(t, list, start)
		}
		checkSweep(t, list)
	}
}

func TestRoundFunctionsOfOtherStarts(t *testing.T) {
	for _, start := range badPlaces() {
		for _, list := range fewStreets() {
			checkNoStreet(t, list, start)
		}
		for _, list := range largeStreets() {
			checkNoStreet(t, list, start)
		}
	}
}

// checkNoStreet checks what the functions return for customers that are not valid, or for a start that is not.
func checkNoStreet(t *testing.T, list []impl.Customer, start int) {
	checkNoOrder(t, list, start, countTo(len(list)))
	checkNoOrder(t, list, start, nil)
	checkLeastLate(t, list, start)
	checkServed(t, list, start, false)
	checkShortest(t, list, start, -1)
}

// checkNoOrder checks what the functions return for arguments for which no times are told.
func checkNoOrder(t *testing.T, list []impl.Customer, start int, order []int) {
	checkTimes(t, list, start, order)
	checkLate(t, list, start, order, -1)
	checkLoad(t, list, start, order, 5, -1)
}

func TestRoundFunctionsOfOtherOrders(t *testing.T) {
	for n := 0; n <= impl.MaxCustomers; n++ {
		list := mixedCustomers(n, n, 20, 50)
		for _, order := range badOrders(n) {
			checkNoOrder(t, list, 0, order)
		}
	}
	// Someone is visited twice, and nobody else is left out.
	checkNoOrder(t, threeCustomers(), 0, []int{0, 1, 2, 1})
	checkNoOrder(t, threeCustomers(), 0, []int{0, 1})
	checkNoOrder(t, threeCustomers(), 0, []int{1, 1, 1})
	checkNoOrder(t, nil, 0, []int{0})
}
