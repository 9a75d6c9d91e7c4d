package tests

import "loop.example/iceharvest/impl"

// owed returns what one person owes to another one.
func owed(from int, to int, amount int) impl.Debt {
	return impl.Debt{From: from, To: to, Amount: amount}
}

// threeDebts returns debts of which one person only passes something on.
func threeDebts() []impl.Debt {
	return []impl.Debt{owed(0, 1, 10), owed(1, 2, 10), owed(3, 2, 5)}
}

// owedAlong returns debts of the same amount, of each person to the next one.
func owedAlong(amount int, people ...int) []impl.Debt {
	list := []impl.Debt{}
	for i := 1; i < len(people); i++ {
		list = append(list, owed(people[i-1], people[i], amount))
	}
	return list
}

// ringOf returns debts of the same amount, of each one of n people to the next one, and of the last one to the first one.
func ringOf(n int, amount int) []impl.Debt {
	return owedAlong(amount, append(countTo(n), 0)...)
}

// risingRing returns a ring in which each person but the first one owes more than the one before.
func risingRing(n int, first int, by int) []impl.Debt {
	list := ringOf(n, first)
	for i := range list {
		list[i].Amount += i * by
	}
	return list
}

// repeatedDebt returns n debts that are equal.
func repeatedDebt(debt impl.Debt, n int) []impl.Debt {
	list := make([]impl.Debt, n)
	for i := range list {
		list[i] = debt
	}
	return list
}

// mixedDebts returns n debts of an amount at most, that look irregular.
func mixedDebts(n int, seed int, greatest int) []impl.Debt {
	from := spread(n, seed, 0, impl.MaxPeople-1)
	steps := spread(n, seed*3+1, 1, impl.MaxPeople-1)
	amounts := spread(n, seed*5+2, 1, greatest)
	list := make([]impl.Debt, n)
	for i := range list {
		list[i] = owed(from[i], (from[i]+steps[i])%impl.MaxPeople, amounts[i])
	}
	return list
}

// ringsOfDebts returns debts that settle to none: rings of all sizes, several of them, and debts both ways.
func ringsOfDebts() [][]impl.Debt {
	list := [][]impl.Debt{
		owedAlong(7, 7, 0, 7),
		owedAlong(impl.MaxAmount, 6, 2, 4, 6),
		// Two rings apart, two with a person in common, and two of different amounts.
		append(owedAlong(3, 0, 1, 2, 0), owedAlong(5, 4, 6, 5, 4)...),
		owedAlong(9, 3, 0, 1, 3, 5, 7, 3),
		append(ringOf(3, 4), owedAlong(6, 1, 0, 2, 1)...),
		// The debts of the ring are out of order, and one is there in parts.
		{owed(2, 0, 8), owed(0, 1, 8), owed(1, 2, 8)},
		{owed(0, 1, 8), owed(1, 2, 3), owed(2, 0, 8), owed(1, 2, 5)},
		append(ringOf(impl.MaxPeople, 1), append(ringOf(impl.MaxPeople, impl.MaxAmount), ringOf(4, 77)...)...),
	}
	for n := 2; n <= impl.MaxPeople; n++ {
		list = append(list, ringOf(n, 1), ringOf(n, 10), ringOf(n, impl.MaxAmount))
	}
	return list
}

// sampleDebts returns valid debts, few and many.
func sampleDebts() [][]impl.Debt {
	list := [][]impl.Debt{
		nil,
		{owed(0, impl.MaxPeople-1, 1)},
		{owed(impl.MaxPeople-1, 0, impl.MaxAmount)},
		{owed(3, 4, 77)},
		threeDebts(),
		// Debts both ways, of which one or the other is greater, and several ones of the same two people.
		{owed(2, 5, 9), owed(5, 2, 4)},
		{owed(2, 5, 4), owed(5, 2, 9)},
		{owed(0, 1, 1), owed(0, 1, impl.MaxAmount), owed(0, 1, 5)},
		{owed(0, 7, impl.MaxAmount), owed(0, 7, impl.MaxAmount), owed(7, 0, 1)},
		// Rings in which not all amounts are equal.
		{owed(0, 1, 10), owed(1, 2, 5), owed(2, 0, 3)},
		{owed(0, 1, 5), owed(1, 2, 10), owed(2, 0, 10)},
		risingRing(2, 1, 1),
		risingRing(3, impl.MaxAmount, -1),
		risingRing(impl.MaxPeople, 1, 3),
		risingRing(impl.MaxPeople, impl.MaxAmount, -1000),
		// One person owes or gets all, and chains in both directions.
		{owed(3, 0, 1), owed(3, 1, 2), owed(3, 2, 4), owed(3, 4, 8), owed(3, 5, 16), owed(3, 6, 32), owed(3, 7, 64)},
		{owed(0, 3, 64), owed(1, 3, 32), owed(2, 3, 16), owed(4, 3, 8), owed(5, 3, 4), owed(6, 3, 2), owed(7, 3, 1)},
		owedAlong(6, 0, 1, 2, 3, 4, 5, 6, 7),
		owedAlong(impl.MaxAmount, 7, 6, 5, 4, 3, 2, 1, 0),
		// Pairs, that the first ones who owe and get do not keep to.
		{owed(0, 7, 5), owed(1, 6, 5), owed(2, 5, 5), owed(3, 4, 5)},
		{owed(7, 0, 5), owed(6, 1, 6), owed(5, 2, 7), owed(4, 3, 8)},
		// As many debts as there may be, with settled ones greater than MaxAmount.
		repeatedDebt(owed(0, 1, impl.MaxAmount), impl.MaxDebts),
		repeatedDebt(owed(7, 0, impl.MaxAmount), impl.MaxDebts),
		repeatedDebt(owed(4, 2, 1), impl.MaxDebts),
		append(repeatedDebt(owed(0, 1, impl.MaxAmount), 10), repeatedDebt(owed(2, 3, impl.MaxAmount), 10)...),
		append(repeatedDebt(owed(0, 1, impl.MaxAmount), 10), repeatedDebt(owed(1, 0, impl.MaxAmount), 9)...),
	}
	for n := 1; n <= impl.MaxDebts; n++ {
		list = append(list, mixedDebts(n, n, 20), mixedDebts(n, n+30, impl.MaxAmount))
	}
	return append(list, ringsOfDebts()...)
}

// smallDebts returns all lists of three debts of three people with few amounts.
func smallDebts() [][]impl.Debt {
	lists := [][]impl.Debt{}
	for kind := 0; kind < 12*12*12; kind++ {
		lists = append(lists, []impl.Debt{smallDebt(kind % 12), smallDebt(kind / 12 % 12), smallDebt(kind / 144)})
	}
	return lists
}

// smallDebt returns one of twelve debts.
func smallDebt(kind int) impl.Debt {
	from := kind % 3
	return owed(from, (from+1+kind/3%2)%3, 1+kind/6)
}

// badDebts returns debts that are not valid, each list for one reason alone.
func badDebts() [][]impl.Debt {
	lists := [][]impl.Debt{
		repeatedDebt(owed(0, 1, 1), impl.MaxDebts+1),
		mixedDebts(impl.MaxDebts+1, 1, impl.MaxAmount),
		repeatedDebt(owed(0, 1, 1), 1000),
	}
	for _, bad := range oddDebts() {
		lists = append(lists, []impl.Debt{bad})
		for i := 0; i < impl.MaxDebts; i++ {
			with := mixedDebts(impl.MaxDebts, 3, 50)
			with[i] = bad
			lists = append(lists, with)
		}
	}
	return lists
}

// oddDebts returns debts that are not valid, each for one reason alone.
func oddDebts() []impl.Debt {
	list := []impl.Debt{{}, {To: 1}}
	for _, person := range []int{-1, -impl.MaxPeople, impl.MaxPeople, impl.MaxPeople + 1, greatestInt, leastInt} {
		list = append(list, owed(person, 1, 5), owed(1, person, 5))
	}
	for person := 0; person < impl.MaxPeople; person++ {
		list = append(list, owed(person, person, 5))
	}
	for _, amount := range []int{0, -1, -impl.MaxAmount, impl.MaxAmount + 1, greatestInt, leastInt} {
		list = append(list, owed(0, 1, amount), owed(7, 6, amount))
	}
	return list
}

// copyDebts returns a list with the same debts in new memory.
func copyDebts(list []impl.Debt) []impl.Debt {
	out := make([]impl.Debt, len(list))
	copy(out, list)
	return out
}

// sameDebts reports whether two lists have the same debts in the same order.
func sameDebts(a []impl.Debt, b []impl.Debt) bool {
	if len(a) != len(b) {
		return false
	}
	for i := range a {
		if a[i] != b[i] {
			return false
		}
	}
	return true
}

// debtsWithout returns the debts of a list but one, in new memory.
func debtsWithout(list []impl.Debt, index int) []impl.Debt {
	return append(copyDebts(list[:index]), list[index+1:]...)
}

// otherWay returns the debts of a list the other way round.
func otherWay(list []impl.Debt) []impl.Debt {
	out := []impl.Debt{}
	for _, debt := range list {
		out = append(out, owed(debt.To, debt.From, debt.Amount))
	}
	return out
}

// balancesByCoins returns what people get, coin by coin, by debts of which an amount may be greater than MaxAmount.
func balancesByCoins(list []impl.Debt) []int {
	balances := make([]int, impl.MaxPeople)
	for _, debt := range list {
		for coin := 0; coin < debt.Amount; coin++ {
			balances[debt.From]--
			balances[debt.To]++
		}
	}
	return balances
}

// coinsOf returns, for each coin of the balances with a sign, the person whose coin it is, from the first person on.
func coinsOf(balances []int, sign int) []int {
	coins := []int{}
	for person, balance := range balances {
		for coin := 0; coin < balance*sign; coin++ {
			coins = append(coins, person)
		}
	}
	return coins
}

// settledByCoins returns the debts of a list if each coin that is owed goes to the first person who still gets one.
func settledByCoins(list []impl.Debt) []impl.Debt {
	balances := balancesByCoins(list)
	getting := coinsOf(balances, 1)
	settled := []impl.Debt{}
	for coin, from := range coinsOf(balances, -1) {
		last := len(settled) - 1
		if last >= 0 && settled[last].From == from && settled[last].To == getting[coin] {
			settled[last].Amount++
		} else {
			settled = append(settled, owed(from, getting[coin], 1))
		}
	}
	return settled
}

// sampleBids returns valid bids, of few people and of many.
func sampleBids() [][]int {
	return [][]int{
		nil,
		{0},
		{1},
		{impl.MaxAmount},
		{5, 5},
		{0, impl.MaxAmount},
		{impl.MaxAmount, 0},
		{10, 20, 15},
		{30, 20, 15},
		{7, 9, 7, 9, 7},
		{9, 9, 3, 3, 3, 1},
		{1, 2, 3, 4, 5, 6, 7, 8},
		{8, 7, 6, 5, 4, 3, 2, 1},
		{4, 4, 4, 4, 4, 4, 4, 3},
		{3, 4, 4, 4, 4, 4, 4, 4},
		{0, 0, 0, 1, 0, 0, 0, 0},
		{impl.MaxAmount, 1, impl.MaxAmount - 1, 0, impl.MaxAmount, 1, 0, impl.MaxAmount - 1},
		repeated(0, impl.MaxPeople),
		repeated(77, 3),
		repeated(77, impl.MaxPeople-1),
		repeated(77, impl.MaxPeople),
		repeated(impl.MaxAmount, impl.MaxPeople),
		spread(4, 1, 0, 9),
		spread(impl.MaxPeople-1, 2, 0, 5),
		spread(impl.MaxPeople, 3, 0, 5),
		spread(impl.MaxPeople, 4, 0, impl.MaxAmount),
		spread(impl.MaxPeople, 5, impl.MaxAmount-4, impl.MaxAmount),
	}
}

// smallBids returns all lists of at most four bids in 0..3.
func smallBids() [][]int {
	lists := [][]int{{}}
	for begin := 0; len(lists[begin]) < 4; begin++ {
		for bid := 0; bid <= 3; bid++ {
			lists = append(lists, append(copyInts(lists[begin]), bid))
		}
	}
	return lists
}

// badBids returns bids that are not valid, each list for one reason alone.
func badBids() [][]int {
	lists := [][]int{repeated(5, impl.MaxPeople+1), countTo(impl.MaxPeople + 1), repeated(5, 1000)}
	for _, bad := range badAmounts() {
		lists = append(lists, []int{bad})
		for i := 0; i < impl.MaxPeople; i++ {
			with := countTo(impl.MaxPeople)
			with[i] = bad
			lists = append(lists, with)
		}
	}
	return lists
}

// badAmounts returns numbers that are no bids, and no worths.
func badAmounts() []int {
	return []int{-1, -impl.MaxAmount, impl.MaxAmount + 1, greatestInt, leastInt}
}

// badRights returns numbers of rights that are not valid.
func badRights() []int {
	return []int{-1, -impl.MaxPeople, impl.MaxPeople + 1, greatestInt, leastInt}
}

// bidWith returns bids of which one is another one, in new memory.
func bidWith(bids []int, i int, bid int) []int {
	out := copyInts(bids)
	out[i] = bid
	return out
}

// winnersByTurns returns the people of n bids who, one after the other, have the first one of the highest bids that are left.
func winnersByTurns(bids []int, n int) []int {
	left := copyInts(bids)
	winners := []int{}
	for len(winners) < n && len(winners) < len(bids) {
		best := 0
		for i := range left {
			if left[i] > left[best] {
				best = i
			}
		}
		winners = append(winners, best)
		left[best] = -1
	}
	return winners
}

// priceBySorting returns the highest bid that does not win, 0 if all win, by the order of all bids.
func priceBySorting(bids []int, n int) int {
	if n >= len(bids) {
		return 0
	}
	return reversed(ascending(bids))[n]
}

// hasNumber reports whether a list has a number.
func hasNumber(list []int, number int) bool {
	for _, other := range list {
		if other == number {
			return true
		}
	}
	return false
}

// paid returns a clause.
func paid(low int, high int, pay int) impl.Clause {
	return impl.Clause{Low: low, High: high, Pay: pay}
}

// threeClauses returns clauses that overlap, of which two cancel at one thickness.
func threeClauses() []impl.Clause {
	return []impl.Clause{paid(0, 49, -10), paid(40, 99, 5), paid(60, 60, -5)}
}

// repeatedClause returns n clauses that are equal.
func repeatedClause(clause impl.Clause, n int) []impl.Clause {
	list := make([]impl.Clause, n)
	for i := range list {
		list[i] = clause
	}
	return list
}

// nestedClauses returns n clauses with the same pay, each of which lies in the one before it.
func nestedClauses(n int, pay int) []impl.Clause {
	list := []impl.Clause{}
	for i := 0; i < n; i++ {
		list = append(list, paid(10*i, impl.MaxThick-10*i, pay))
	}
	return list
}

// clausesInTurn returns n clauses of the same length, each of which begins so many thicknesses behind the one before it.
func clausesInTurn(n int, long int, gap int, pays []int) []impl.Clause {
	list := []impl.Clause{}
	low := 0
	for i := 0; i < n; i++ {
		list = append(list, paid(low, low+long-1, pays[i%len(pays)]))
		low += long - 1 + gap
	}
	return list
}

// mixedClauses returns n clauses with thicknesses and pays at most, that look irregular.
func mixedClauses(n int, seed int, thickest int, greatest int) []impl.Clause {
	ends := ascendingPairs(spread(n, seed, 0, thickest), spread(n, seed*3+1, 0, thickest))
	pays := spread(n, seed*5+2, -greatest, greatest)
	list := make([]impl.Clause, n)
	for i := range list {
		list[i] = paid(ends[i][0], ends[i][1], pays[i])
	}
	return list
}

// ascendingPairs returns, for each index, the numbers of two lists, the lesser one first.
func ascendingPairs(a []int, b []int) [][]int {
	pairs := [][]int{}
	for i := range a {
		pairs = append(pairs, ascending([]int{a[i], b[i]}))
	}
	return pairs
}

// sampleContracts returns valid contracts of which no sum is too great.
func sampleContracts() [][]impl.Clause {
	last := impl.MaxThick
	list := [][]impl.Clause{
		nil,
		{{}},
		{paid(0, 0, 1)},
		{paid(0, 0, -1)},
		{paid(last, last, 7)},
		{paid(last, last, -7)},
		{paid(0, last, impl.MaxAmount)},
		{paid(0, last, -impl.MaxAmount)},
		{paid(0, last, 0)},
		{paid(100, 200, 0)},
		{paid(100, 200, 3)},
		{paid(100, 200, -3)},
		threeClauses(),
		threeClauses()[1:],
		// Clauses that overlap, lie one in the other, touch at a thickness, and leave a thickness out.
		{paid(10, 30, 4), paid(20, 40, 5)},
		{paid(20, 40, 5), paid(10, 30, 4)},
		{paid(10, 40, 4), paid(20, 30, 5)},
		{paid(10, 40, 4), paid(10, 30, 5)},
		{paid(10, 40, 4), paid(20, 40, -5)},
		{paid(10, 20, 4), paid(20, 30, 4)},
		{paid(10, 20, 4), paid(22, 30, 4)},
		// Clauses that begin just behind another one.
		{paid(10, 20, 4), paid(21, 30, 4)},
		{paid(21, 30, 4), paid(10, 20, 4)},
		{paid(10, 20, 4), paid(21, 30, 5)},
		{paid(10, 20, 4), paid(21, 30, -4)},
		{paid(10, 20, 4), paid(21, 30, 0), paid(31, 40, 4)},
		{paid(0, last-1, 4), paid(last, last, 4)},
		{paid(0, 0, 4), paid(1, last, 4)},
		// Clauses that cancel in part and wholly.
		{paid(10, 40, 4), paid(20, 30, -4)},
		{paid(10, 40, 4), paid(10, 30, -4)},
		{paid(10, 40, 4), paid(20, 40, -4)},
		{paid(10, 40, 4), paid(10, 40, -4)},
		{paid(0, last, impl.MaxAmount), paid(0, last, -impl.MaxAmount)},
		{paid(10, 40, 4), paid(10, 25, -4), paid(26, 40, -4)},
		{paid(10, 40, 4), paid(10, 40, 3), paid(10, 40, -7)},
		{paid(0, 500, 4), paid(500, last, 4), paid(500, 500, -4)},
		// Clauses that fill a gap, so that one goes on.
		{paid(10, 19, 4), paid(21, 30, 4), paid(20, 20, 4)},
		{paid(10, 30, 6), paid(15, 20, -2), paid(15, 18, 2), paid(19, 20, 2)},
		// Sums of just MaxAmount, also with greater ones in between.
		{paid(0, 9, impl.MaxAmount-1), paid(5, 20, 1)},
		{paid(0, 9, 1-impl.MaxAmount), paid(5, 20, -1)},
		{paid(0, 9, impl.MaxAmount), paid(0, 9, impl.MaxAmount), paid(0, 9, -impl.MaxAmount)},
		{paid(0, 9, -impl.MaxAmount), paid(0, 9, -impl.MaxAmount), paid(0, 9, impl.MaxAmount)},
		// As many clauses as there may be.
		repeatedClause(paid(0, last, 500), impl.MaxDebts),
		repeatedClause(paid(3, 3, -500), impl.MaxDebts),
		repeatedClause(paid(0, last, 0), impl.MaxDebts),
		clausesInTurn(impl.MaxDebts, 50, 1, []int{5}),
		clausesInTurn(impl.MaxDebts, 50, 1, []int{5, -5}),
		clausesInTurn(impl.MaxDebts, 40, 2, []int{-impl.MaxAmount, -impl.MaxAmount, 3}),
		clausesInTurn(impl.MaxDebts, 40, 0, []int{1, 2, -3, 4}),
		clausesInTurn(impl.MaxDebts, 1, 1, []int{1, 1, 2}),
		// Simple contracts of these have more clauses than there may be.
		nestedClauses(impl.MaxDebts, 500),
		nestedClauses(impl.MaxDebts, -3),
		nestedClauses(11, -3),
		nestedClauses(10, -3),
	}
	for n := 1; n <= impl.MaxDebts; n++ {
		list = append(list, mixedClauses(n, n, impl.MaxThick, 500), mixedClauses(n, n+30, 12, 2))
	}
	return list
}

// greatSums returns valid contracts that pay more than MaxAmount for some thickness, with either sign.
func greatSums() [][]impl.Clause {
	last := impl.MaxThick
	return [][]impl.Clause{
		{paid(0, 9, impl.MaxAmount), paid(0, 9, 1)},
		{paid(0, 9, -impl.MaxAmount), paid(0, 9, -1)},
		{paid(0, 9, impl.MaxAmount), paid(9, 20, 1)},
		{paid(0, 9, -impl.MaxAmount), paid(9, 20, -1)},
		{paid(0, 0, 1), paid(0, last, impl.MaxAmount)},
		{paid(last, last, -1), paid(0, last, -impl.MaxAmount)},
		{paid(0, 9, 5000), paid(5, 20, 5001)},
		{paid(500, 600, impl.MaxAmount), paid(600, 600, impl.MaxAmount), paid(0, 599, -1)},
		{paid(0, last, 3), paid(700, 700, impl.MaxAmount-2)},
		{paid(0, last, -3), paid(700, 700, 2-impl.MaxAmount)},
		repeatedClause(paid(0, last, impl.MaxAmount), impl.MaxDebts),
		repeatedClause(paid(0, last, -impl.MaxAmount), impl.MaxDebts),
		repeatedClause(paid(7, 7, 501), impl.MaxDebts),
		nestedClauses(impl.MaxDebts, 501),
		nestedClauses(impl.MaxDebts, -501),
	}
}

// smallContracts returns all contracts of two clauses of few thicknesses at each end, with pays of -1, 0 and 1.
func smallContracts() [][]impl.Clause {
	lists := [][]impl.Clause{}
	for _, from := range []int{0, impl.MaxThick - 3} {
		for kind := 0; kind < 30*30; kind++ {
			lists = append(lists, []impl.Clause{smallClause(from, kind%30), smallClause(from, kind/30)})
		}
	}
	return lists
}

// smallClause returns one of thirty clauses of four thicknesses from the first one on.
func smallClause(from int, kind int) impl.Clause {
	ranges := [][]int{{0, 0}, {0, 1}, {0, 2}, {0, 3}, {1, 1}, {1, 2}, {1, 3}, {2, 2}, {2, 3}, {3, 3}}
	ends := ranges[kind%10]
	return paid(from+ends[0], from+ends[1], kind/10-1)
}

// badContracts returns contracts that are not valid, each for one reason alone.
func badContracts() [][]impl.Clause {
	lists := [][]impl.Clause{
		repeatedClause(paid(0, 9, 1), impl.MaxDebts+1),
		repeatedClause(paid(0, 9, 0), impl.MaxDebts+1),
		mixedClauses(impl.MaxDebts+1, 1, impl.MaxThick, 50),
		repeatedClause(paid(0, 9, 1), 1000),
	}
	for _, bad := range oddClauses() {
		lists = append(lists, []impl.Clause{bad})
		for i := 0; i < impl.MaxDebts; i++ {
			with := mixedClauses(impl.MaxDebts, 3, impl.MaxThick, 50)
			with[i] = bad
			lists = append(lists, with)
		}
	}
	return lists
}

// oddClauses returns clauses that are not valid, each for one reason alone.
func oddClauses() []impl.Clause {
	last := impl.MaxThick
	list := []impl.Clause{
		paid(1, 0, 5), paid(2, 1, 5), paid(last, 0, 5), paid(last, last-1, 5),
		paid(-1, 9, 5), paid(-1, -1, 5), paid(-9, 0, 5), paid(leastInt, 9, 5), paid(-1, last, 5),
		paid(0, last+1, 5), paid(last+1, last+1, 5), paid(0, greatestInt, 5),
		paid(greatestInt, greatestInt, 5), paid(leastInt, leastInt, 5), paid(leastInt, greatestInt, 5),
		paid(0, leastInt, 5), paid(greatestInt, 9, 5),
	}
	for _, pay := range []int{-impl.MaxAmount - 1, impl.MaxAmount + 1, greatestInt, leastInt} {
		list = append(list, paid(0, 9, pay), paid(last, last, pay))
	}
	return list
}

// badThicks returns numbers that are no thicknesses.
func badThicks() []int {
	return []int{-1, -impl.MaxThick, impl.MaxThick + 1, greatestInt, leastInt}
}

// copyClauses returns a list with the same clauses in new memory.
func copyClauses(list []impl.Clause) []impl.Clause {
	out := make([]impl.Clause, len(list))
	copy(out, list)
	return out
}

// sameClauses reports whether two lists have the same clauses in the same order.
func sameClauses(a []impl.Clause, b []impl.Clause) bool {
	if len(a) != len(b) {
		return false
	}
	for i := range a {
		if a[i] != b[i] {
			return false
		}
	}
	return true
}

// clausesWithout returns the clauses of a list but one, in new memory.
func clausesWithout(list []impl.Clause, index int) []impl.Clause {
	return append(copyClauses(list[:index]), list[index+1:]...)
}

// paysByClauses returns what is paid for each thickness, clause by clause, also for more clauses than a contract may have.
func paysByClauses(list []impl.Clause) []int {
	pays := make([]int, impl.MaxThick+1)
	for _, clause := range list {
		for thick := clause.Low; thick <= clause.High; thick++ {
			pays[thick] += clause.Pay
		}
	}
	return pays
}

// simpleByPays returns the clauses that pay for each thickness what is told, and go on as long as they can.
func simpleByPays(pays []int) []impl.Clause {
	list := []impl.Clause{}
	for thick, pay := range pays {
		last := len(list) - 1
		if last >= 0 && list[last].High == thick-1 && list[last].Pay == pay {
			list[last].High = thick
		} else if pay != 0 {
			list = append(list, paid(thick, thick, pay))
		}
	}
	return list
}

// isTooGreat reports whether one of some pays is greater than MaxAmount, with either sign.
func isTooGreat(pays []int) bool {
	for _, pay := range pays {
		if absolute(pay) > impl.MaxAmount {
			return true
		}
	}
	return false
}
