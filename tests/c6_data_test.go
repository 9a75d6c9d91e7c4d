package tests

import "loop.example/iceharvest/impl"

// round is a list of customers, and the place at which the wagon starts.
type round struct {
	list  []impl.Customer
	start int
}

// threeCustomers returns customers on both sides of the place 0, who can be served from there in one order alone.
func threeCustomers() []impl.Customer {
	return []impl.Customer{{At: 5, Due: 20, Want: 2}, {At: -3, Due: 9, Want: 1}, {At: 10, Due: 40, Want: 4}}
}

// customersAt returns customers with the same Due at some places, the first of whom wants 1 cake, and each one more 1 more.
func customersAt(due int, places ...int) []impl.Customer {
	list := make([]impl.Customer, len(places))
	for i, at := range places {
		list[i] = impl.Customer{At: at, Due: due, Want: i + 1}
	}
	return list
}

// mixedCustomers returns n customers not far from the place 0, with a Due at most, who look irregular.
func mixedCustomers(n int, seed int, far int, latest int) []impl.Customer {
	places := spread(n, seed, -far, far)
	dues := spread(n, seed*3+1, 0, latest)
	wants := spread(n, seed*5+2, 1, impl.MaxWant)
	list := make([]impl.Customer, n)
	for i := range list {
		list[i] = impl.Customer{At: places[i], Due: dues[i], Want: wants[i]}
	}
	return list
}

// tightCustomers returns the customers with the Dues that an order just meets.
func tightCustomers(list []impl.Customer, start int, order []int) []impl.Customer {
	tight := copyCustomers(list)
	for visit, time := range timesByTicks(list, start, order) {
		tight[order[visit]].Due = time
	}
	return tight
}

// zigzag returns the most customers, of whom the wagon that starts at the place 0 must change its side with each visit.
func zigzag() []impl.Customer {
	return tightCustomers(customersAt(0, 64, -8, 1, -100, 16, 4, -2, -32), 0, zigzagOrder())
}

// zigzagOrder returns the order in which the customers of zigzag are visited.
func zigzagOrder() []int {
	return []int{2, 6, 5, 1, 4, 7, 0, 3}
}

// fewStreets returns valid customers, at most MaxFew of them.
func fewStreets() [][]impl.Customer {
	list := [][]impl.Customer{
		nil,
		{{At: 0, Due: 0, Want: 1}},
		{{At: 4, Due: 4, Want: impl.MaxWant}},
		{{At: -impl.MaxStreet, Due: impl.MaxTime, Want: 1}},
		{{At: impl.MaxStreet, Due: 100, Want: 7}},
		threeCustomers(),
		// Customers at equal places, in and out of order.
		{{At: 4, Due: 4, Want: 1}, {At: 4, Due: 9, Want: 1}, {At: -1, Due: 9, Want: 1}},
		{{At: 4, Due: 9, Want: 1}, {At: -1, Due: 9, Want: 1}, {At: 4, Due: 4, Want: 1}},
		customersAt(0, 0, 0, 0, 0, 0, 0),
		customersAt(9, 7, 7, 7, 7, 7, 7),
		customersAt(300, 3, -5, 3, -5, 0, 3),
		// Customers on one side alone, and at both ends of the street.
		customersAt(60, 10, 40, 30, 60, 20, 50),
		customersAt(25, -1, -2, -30, -4),
		customersAt(350, -100, 100, -100, 100, -100, 100),
		customersAt(impl.MaxTime, 100, -100, 99, -99),
		// All orders are late, some as much as others.
		customersAt(0, 5, -5),
		customersAt(0, 3, 2, 1, -1, -2, -3),
		customersAt(2, -9, 9, 8, -8, 0),
	}
	for n := 1; n <= impl.MaxFew; n++ {
		list = append(list, mixedCustomers(n, n, 10, 40), mixedCustomers(n, n+10, impl.MaxStreet, 500))
	}
	return list
}

// largeStreets returns valid customers, more than MaxFew of them.
func largeStreets() [][]impl.Customer {
	return [][]impl.Customer{
		zigzag(),
		customersAt(impl.MaxTime, 100, -100, 100, -100, 100, -100, 100, -100),
		customersAt(20, 4, 4, -4, -4, 4, -4, 0, 0),
		customersAt(90, 10, 20, 30, 40, 50, 60, 70),
		mixedCustomers(impl.MaxFew+1, 4, 20, 200),
		mixedCustomers(impl.MaxCustomers, 7, 12, 70),
		mixedCustomers(impl.MaxCustomers, 9, impl.MaxStreet, impl.MaxTime),
		mixedCustomers(impl.MaxCustomers, 11, impl.MaxStreet, 400),
	}
}

// startPlaces returns places at both ends of the street and between them.
func startPlaces() []int {
	return []int{-impl.MaxStreet, -impl.MaxStreet + 1, -7, 0, 4, 60, impl.MaxStreet}
}

// roundsOf returns a round from each start for each one of some lists of customers.
func roundsOf(lists [][]impl.Customer) []round {
	rounds := []round{}
	for _, list := range lists {
		for _, start := range startPlaces() {
			rounds = append(rounds, round{list, start})
		}
	}
	return rounds
}

// sampleRounds returns rounds for few customers and for many.
func sampleRounds() []round {
	return append(roundsOf(fewStreets()), roundsOf(largeStreets())...)
}

// tightRounds returns rounds with Dues that are just met along the street, in one direction or the other, and those of which one Due is missed by one tick.
func tightRounds(lists [][]impl.Customer) []round {
	rounds := []round{}
	for _, r := range roundsOf(lists) {
		order := sweptByPlaces(r.list)
		for _, way := range [][]int{order, reversed(order)} {
			tight := tightCustomers(r.list, r.start, way)
			rounds = append(rounds, round{tight, r.start})
			for i := range tight {
				missed := copyCustomers(tight)
				missed[i].Due--
				if missed[i].Due >= 0 {
					rounds = append(rounds, round{missed, r.start})
				}
			}
		}
	}
	return rounds
}

// smallRounds returns all rounds of three customers at few places with few Dues.
func smallRounds() []round {
	rounds := []round{}
	for kind := 0; kind < 12*12*12; kind++ {
		list := []impl.Customer{smallCustomer(kind % 12), smallCustomer(kind / 12 % 12), smallCustomer(kind / 144)}
		for start := -2; start <= 3; start++ {
			rounds = append(rounds, round{list, start})
		}
	}
	return rounds
}

// smallCustomer returns one of twelve customers.
func smallCustomer(kind int) impl.Customer {
	places := []int{-1, 0, 2}
	dues := []int{0, 1, 3, 5}
	return impl.Customer{At: places[kind%3], Due: dues[kind/3], Want: 1}
}

// badStreets returns customers who are not valid, each list for one reason alone.
func badStreets() [][]impl.Customer {
	list := [][]impl.Customer{
		customersAt(5, 1, 2, 3, 4, 5, 6, 7, 8, 9),
		mixedCustomers(1000, 1, impl.MaxStreet, impl.MaxTime),
	}
	for _, bad := range badCustomers() {
		list = append(list, []impl.Customer{bad})
		for i := range threeCustomers() {
			with := threeCustomers()
			with[i] = bad
			list = append(list, with)
		}
	}
	return list
}

// badCustomers returns customers who are not valid, each for one reason alone.
func badCustomers() []impl.Customer {
	list := []impl.Customer{{}}
	for _, at := range badPlaces() {
		list = append(list, impl.Customer{At: at, Due: 9, Want: 1})
	}
	for _, due := range []int{-1, impl.MaxTime + 1, greatestInt, leastInt} {
		list = append(list, impl.Customer{At: 5, Due: due, Want: 1})
	}
	for _, want := range []int{0, -1, impl.MaxWant + 1, greatestInt, leastInt} {
		list = append(list, impl.Customer{At: 5, Due: 9, Want: want})
	}
	return list
}

// badPlaces returns numbers that are no places of the street.
func badPlaces() []int {
	return []int{-impl.MaxStreet - 1, impl.MaxStreet + 1, greatestInt, leastInt}
}

// badEverys returns numbers that are no ticks in which a cake melts.
func badEverys() []int {
	return []int{0, -1, -impl.MaxTime, impl.MaxTime + 1, greatestInt, leastInt}
}

// badOrders returns orders that do not have each index of n customers once.
func badOrders(n int) [][]int {
	orders := [][]int{append(countTo(n), 0), append(countTo(n), n), append(countTo(n), -1), repeated(0, n+2), repeated(n, n+1)}
	for i := 0; i < n; i++ {
		orders = append(orders, countTo(n)[:i], countTo(n)[i+1:])
		for _, index := range []int{-1, -n, n, n + 1, greatestInt, leastInt} {
			orders = append(orders, orderWith(n, i, index))
		}
		if n > 1 {
			orders = append(orders, orderWith(n, i, (i+1)%n))
		}
	}
	return orders
}

// orderWith returns the indices of n customers in order, but for another one at one place.
func orderWith(n int, place int, index int) []int {
	order := countTo(n)
	order[place] = index
	return order
}

// ordersToTry returns all orders of few customers, and some of many.
func ordersToTry(n int) [][]int {
	if n <= 4 {
		return allOrders(n)
	}
	orders := [][]int{}
	for first := 0; first < n; first++ {
		order := append(countTo(n)[first:], countTo(first)...)
		orders = append(orders, order, reversed(order))
	}
	return append(orders, append(everyNth(countTo(n), 2, 1), everyNth(countTo(n), 2, 0)...))
}

// copyCustomers returns a list with the same customers in new memory.
func copyCustomers(list []impl.Customer) []impl.Customer {
	out := make([]impl.Customer, len(list))
	copy(out, list)
	return out
}

// sameCustomers reports whether two lists have the same customers in the same order.
func sameCustomers(a []impl.Customer, b []impl.Customer) bool {
	if len(a) != len(b) {
		return false
	}
	for i := range a {
		if a[i] != b[i] {
			return false
		}
	}
	return true
}

// customersWithout returns the customers of a list but one, in new memory.
func customersWithout(list []impl.Customer, index int) []impl.Customer {
	return append(copyCustomers(list[:index]), list[index+1:]...)
}

// mirrored returns the customers on the other side of a place, each as far from it.
func mirrored(list []impl.Customer, place int) []impl.Customer {
	out := copyCustomers(list)
	for i := range out {
		out[i].At = place - (out[i].At - place)
	}
	return out
}

// placesIn returns the places of customers in an order.
func placesIn(list []impl.Customer, order []int) []int {
	places := []int{}
	for _, i := range order {
		places = append(places, list[i].At)
	}
	return places
}

// wantsOf returns how many cakes all customers want.
func wantsOf(list []impl.Customer) int {
	sum := 0
	for _, customer := range list {
		sum += customer.Want
	}
	return sum
}

// timesByTicks returns the times of the visits of a wagon that moves by one place with each tick.
func timesByTicks(list []impl.Customer, start int, order []int) []int {
	times := []int{}
	at := start
	tick := 0
	for _, place := range placesIn(list, order) {
		for ; at < place; at++ {
			tick++
		}
		for ; at > place; at-- {
			tick++
		}
		times = append(times, tick)
	}
	return times
}

// lateByTicks returns the ticks that pass, over all visits, from Due on up to the visit.
func lateByTicks(list []impl.Customer, start int, order []int) int {
	late := 0
	for visit, time := range timesByTicks(list, start, order) {
		for tick := list[order[visit]].Due; tick < time; tick++ {
			late++
		}
	}
	return late
}

// leastByOrders returns the first one, index by index, of all orders with the least lateness.
func leastByOrders(list []impl.Customer, start int) []int {
	best := countTo(len(list))
	least := lateByTicks(list, start, best)
	for _, order := range allOrders(len(list)) {
		late := lateByTicks(list, start, order)
		if late < least || late == least && isBefore(order, best) {
			best = order
			least = late
		}
	}
	return best
}

// isBefore reports whether an order has the lesser index at the first place at which it differs from another one.
func isBefore(a []int, b []int) bool {
	for i := range a {
		if a[i] != b[i] {
			return a[i] < b[i]
		}
	}
	return false
}

// servedByOrders reports whether there is an order in which a wagon visits all customers in time, by a look at all of them.
func servedByOrders(list []impl.Customer, at int, time int) bool {
	if len(list) == 0 {
		return true
	}
	for i, customer := range list {
		then := time + absolute(customer.At-at)
		if then <= customer.Due && servedByOrders(customersWithout(list, i), customer.At, then) {
			return true
		}
	}
	return false
}

// shortestByOrders returns the least time after which a wagon was at all customers, by a look at all orders.
func shortestByOrders(list []impl.Customer, at int) int {
	shortest := 0
	for i, customer := range list {
		time := absolute(customer.At-at) + shortestByOrders(customersWithout(list, i), customer.At)
		if i == 0 || time < shortest {
			shortest = time
		}
	}
	return shortest
}

// sweptByPlaces returns the indices of the customers at the least place of the street, then at the next one, and so on.
func sweptByPlaces(list []impl.Customer) []int {
	order := []int{}
	for at := -impl.MaxStreet; at <= impl.MaxStreet; at++ {
		for i, customer := range list {
			if customer.At == at {
				order = append(order, i)
			}
		}
	}
	return order
}
