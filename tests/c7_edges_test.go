package tests

import (
	"testing"

	"loop.example/iceharvest/impl"
)

func TestDealConstants(t *testing.T) {
	if impl.MaxPeople != 8 || impl.MaxAmount != 10000 || impl.MaxDebts != 20 || impl.MaxThick != 999 {
		t.Error("MaxPeople, MaxAmount, MaxDebts or MaxThick")
	}
}

func TestValidDebtsEdges(t *testing.T) {
	for _, list := range [][]impl.Debt{
		nil, {}, {owed(0, 7, 1)}, {owed(7, 0, 10000)}, {owed(0, 1, 1), owed(1, 0, 1)}, threeDebts(), ringOf(8, 5),
		repeatedDebt(owed(3, 4, 10000), 20), append(ringOf(8, 1), append(ringOf(8, 2), ringOf(4, 3)...)...),
	} {
		if !impl.ValidDebts(list) {
			t.Errorf("ValidDebts(%v) is false", list)
		}
	}
	for _, list := range badDebts() {
		if impl.ValidDebts(list) {
			t.Errorf("ValidDebts(%v) is true", list)
		}
	}
}

func TestBalancesOfEdges(t *testing.T) {
	checkBalances(t, nil, 0, 0, 0, 0, 0, 0, 0, 0)
	checkBalances(t, []impl.Debt{}, 0, 0, 0, 0, 0, 0, 0, 0)
	checkBalances(t, []impl.Debt{owed(0, 7, 1)}, -1, 0, 0, 0, 0, 0, 0, 1)
	checkBalances(t, []impl.Debt{owed(7, 0, 10000)}, 10000, 0, 0, 0, 0, 0, 0, -10000)
	checkBalances(t, threeDebts(), -10, 0, 15, -5, 0, 0, 0, 0)
	// Both ways between two people, and several debts of the same two.
	checkBalances(t, []impl.Debt{owed(2, 5, 9), owed(5, 2, 4)}, 0, 0, -5, 0, 0, 5, 0, 0)
	checkBalances(t, []impl.Debt{owed(2, 5, 4), owed(5, 2, 9)}, 0, 0, 5, 0, 0, -5, 0, 0)
	checkBalances(t, []impl.Debt{owed(2, 5, 9), owed(5, 2, 9)}, 0, 0, 0, 0, 0, 0, 0, 0)
	checkBalances(t, []impl.Debt{owed(0, 1, 1), owed(0, 1, 10000), owed(0, 1, 5)}, -10006, 10006, 0, 0, 0, 0, 0, 0)
	// Rings of equal and of different amounts.
	checkBalances(t, ringOf(3, 10), 0, 0, 0, 0, 0, 0, 0, 0)
	checkBalances(t, ringOf(8, 10000), 0, 0, 0, 0, 0, 0, 0, 0)
	checkBalances(t, []impl.Debt{owed(0, 1, 10), owed(1, 2, 5), owed(2, 0, 3)}, -7, 5, 2, 0, 0, 0, 0, 0)
	checkBalances(t, risingRing(8, 1, 3), 21, -3, -3, -3, -3, -3, -3, -3)
	// As many debts as there may be, and one more.
	checkBalances(t, repeatedDebt(owed(0, 1, 10000), 20), -200000, 200000, 0, 0, 0, 0, 0, 0)
	checkBalances(t, repeatedDebt(owed(7, 6, 1), 20), 0, 0, 0, 0, 0, 0, 20, -20)
	checkBalances(t, repeatedDebt(owed(7, 6, 1), 21))
}

func checkBalances(t *testing.T, list []impl.Debt, want ...int) {
	if got := impl.BalancesOf(list); !sameInts(got, want) {
		t.Errorf("BalancesOf(%v) = %v, not %v", list, got, want)
	}
}

func TestSettleDebtsEdges(t *testing.T) {
	checkSettled(t, nil)
	checkSettled(t, []impl.Debt{})
	checkSettled(t, []impl.Debt{owed(0, 7, 1)}, owed(0, 7, 1))
	checkSettled(t, []impl.Debt{owed(7, 0, 10000)}, owed(7, 0, 10000))
	checkSettled(t, threeDebts(), owed(0, 2, 10), owed(3, 2, 5))
	// Both ways between two people, and several debts of the same two.
	checkSettled(t, []impl.Debt{owed(2, 5, 9), owed(5, 2, 4)}, owed(2, 5, 5))
	checkSettled(t, []impl.Debt{owed(2, 5, 4), owed(5, 2, 9)}, owed(5, 2, 5))
	checkSettled(t, []impl.Debt{owed(2, 5, 9), owed(5, 2, 9)})
	checkSettled(t, []impl.Debt{owed(1, 0, 1), owed(1, 0, 2), owed(1, 0, 3)}, owed(1, 0, 6))
	// The first one who owes pays the first one who gets something, whoever owed whom.
	checkSettled(t, []impl.Debt{owed(0, 7, 5), owed(1, 6, 5)}, owed(0, 6, 5), owed(1, 7, 5))
	checkSettled(t, []impl.Debt{owed(1, 6, 5), owed(0, 7, 5)}, owed(0, 6, 5), owed(1, 7, 5))
	checkSettled(t, []impl.Debt{owed(7, 0, 5), owed(6, 1, 6)}, owed(6, 0, 5), owed(6, 1, 1), owed(7, 1, 5))
	checkSettled(t, []impl.Debt{owed(3, 0, 1), owed(3, 1, 2), owed(3, 7, 4)}, owed(3, 0, 1), owed(3, 1, 2), owed(3, 7, 4))
	checkSettled(t, []impl.Debt{owed(7, 3, 4), owed(1, 3, 2), owed(0, 3, 1)}, owed(0, 3, 1), owed(1, 3, 2), owed(7, 3, 4))
	checkSettled(t, owedAlong(6, 0, 1, 2, 3, 4, 5, 6, 7), owed(0, 7, 6))
	checkSettled(t, owedAlong(6, 7, 6, 5, 4, 3, 2, 1, 0), owed(7, 0, 6))
	// An equal balance settles two people at once, a lesser one the first or the second one alone.
	checkSettled(t, []impl.Debt{owed(0, 2, 5), owed(1, 3, 8)}, owed(0, 2, 5), owed(1, 3, 8))
	checkSettled(t, []impl.Debt{owed(0, 3, 5), owed(1, 2, 8)}, owed(0, 2, 5), owed(1, 2, 3), owed(1, 3, 5))
	checkSettled(t, []impl.Debt{owed(0, 3, 8), owed(1, 2, 5)}, owed(0, 2, 5), owed(0, 3, 3), owed(1, 3, 5))
}

func TestSettleDebtsOfManyEdges(t *testing.T) {
	checkSettled(t, repeatedDebt(owed(0, 1, 10000), 20), owed(0, 1, 200000))
	checkSettled(t, repeatedDebt(owed(7, 0, 10000), 20), owed(7, 0, 200000))
	checkSettled(t, []impl.Debt{owed(0, 1, 10000), owed(0, 1, 1)}, owed(0, 1, 10001))
	ten := append(repeatedDebt(owed(0, 1, 10000), 10), repeatedDebt(owed(2, 3, 10000), 10)...)
	checkSettled(t, ten, owed(0, 1, 100000), owed(2, 3, 100000))
	// Seven debts are the most that are left.
	checkSettled(t, risingRing(8, 1, 3), owed(1, 0, 3), owed(2, 0, 3), owed(3, 0, 3), owed(4, 0, 3), owed(5, 0, 3), owed(6, 0, 3), owed(7, 0, 3))
	pairs := []impl.Debt{owed(7, 0, 5), owed(6, 1, 6), owed(5, 2, 7), owed(4, 3, 8)}
	checkSettled(t, pairs, owed(4, 0, 5), owed(4, 1, 3), owed(5, 1, 3), owed(5, 2, 4), owed(6, 2, 3), owed(6, 3, 3), owed(7, 3, 5))
	checkSettled(t, repeatedDebt(owed(7, 6, 1), 21))
}

func TestSettleDebtsOfRings(t *testing.T) {
	for _, list := range ringsOfDebts() {
		checkSettled(t, list)
	}
	// Rings of different amounts leave what each person still owes or gets.
	checkSettled(t, []impl.Debt{owed(0, 1, 10), owed(1, 2, 5), owed(2, 0, 3)}, owed(0, 1, 5), owed(0, 2, 2))
	checkSettled(t, []impl.Debt{owed(0, 1, 5), owed(1, 2, 10), owed(2, 0, 10)}, owed(1, 0, 5))
	checkSettled(t, []impl.Debt{owed(0, 1, 10), owed(1, 2, 5), owed(2, 0, 10)}, owed(2, 1, 5))
	checkSettled(t, risingRing(3, 10000, -1), owed(0, 1, 1), owed(0, 2, 1))
	// A ring with a debt beside it.
	checkSettled(t, append(ringOf(4, 9), owed(3, 6, 2)), owed(3, 6, 2))
}

func checkSettled(t *testing.T, list []impl.Debt, want ...impl.Debt) {
	if got := impl.SettleDebts(list); !sameDebts(got, want) {
		t.Errorf("SettleDebts(%v) = %v, not %v", list, got, want)
	}
}

func TestDebtFunctionsOfOtherDebts(t *testing.T) {
	for _, list := range badDebts() {
		checkBalances(t, list)
		checkSettled(t, list)
	}
}

func TestWinnersOfEdges(t *testing.T) {
	for n := 0; n <= impl.MaxPeople; n++ {
		checkAuction(t, nil, n, 0)
		checkAuction(t, []int{}, n, 0)
	}
	for _, bid := range []int{0, 1, 10000} {
		checkAuction(t, []int{bid}, 0, bid)
		checkAuction(t, []int{bid}, 1, 0, 0)
		checkAuction(t, []int{bid}, 2, 0, 0)
		checkAuction(t, []int{bid}, 8, 0, 0)
	}
	// One right less than bids, as many, one more, and as many as there may be.
	checkAuction(t, []int{10, 20, 15}, 0, 20)
	checkAuction(t, []int{10, 20, 15}, 1, 15, 1)
	checkAuction(t, []int{10, 20, 15}, 2, 10, 1, 2)
	checkAuction(t, []int{10, 20, 15}, 3, 0, 1, 2, 0)
	checkAuction(t, []int{10, 20, 15}, 4, 0, 1, 2, 0)
	checkAuction(t, []int{10, 20, 15}, 8, 0, 1, 2, 0)
	checkAuction(t, []int{0, 10000}, 1, 0, 1)
	checkAuction(t, []int{10000, 0}, 1, 0, 0)
	checkAuction(t, []int{0, 10000}, 2, 0, 1, 0)
	checkAuction(t, []int{1, 2, 3, 4, 5, 6, 7, 8}, 7, 1, 7, 6, 5, 4, 3, 2, 1)
	checkAuction(t, []int{1, 2, 3, 4, 5, 6, 7, 8}, 8, 0, 7, 6, 5, 4, 3, 2, 1, 0)
	checkAuction(t, []int{8, 7, 6, 5, 4, 3, 2, 1}, 1, 7, 0)
	checkAuction(t, []int{8, 7, 6, 5, 4, 3, 2, 1}, 7, 1, 0, 1, 2, 3, 4, 5, 6)
}

func TestWinnersOfEqualBids(t *testing.T) {
	for _, bid := range []int{0, 77, 10000} {
		checkAuction(t, []int{bid, bid}, 0, bid)
		checkAuction(t, []int{bid, bid}, 1, bid, 0)
		checkAuction(t, []int{bid, bid}, 2, 0, 0, 1)
		for n := 0; n < impl.MaxPeople; n++ {
			checkAuction(t, repeated(bid, impl.MaxPeople), n, bid, countTo(n)...)
		}
		checkAuction(t, repeated(bid, impl.MaxPeople), impl.MaxPeople, 0, countTo(impl.MaxPeople)...)
	}
	// Equal bids at the last right, before it, and behind it.
	checkAuction(t, []int{7, 9, 7, 9, 7}, 1, 9, 1)
	checkAuction(t, []int{7, 9, 7, 9, 7}, 2, 7, 1, 3)
	checkAuction(t, []int{7, 9, 7, 9, 7}, 3, 7, 1, 3, 0)
	checkAuction(t, []int{7, 9, 7, 9, 7}, 4, 7, 1, 3, 0, 2)
	checkAuction(t, []int{7, 9, 7, 9, 7}, 5, 0, 1, 3, 0, 2, 4)
	checkAuction(t, []int{3, 4, 4, 4, 4, 4, 4, 4}, 7, 3, 1, 2, 3, 4, 5, 6, 7)
	checkAuction(t, []int{3, 4, 4, 4, 4, 4, 4, 4}, 6, 4, 1, 2, 3, 4, 5, 6)
	checkAuction(t, []int{0, 0, 0, 1, 0, 0, 0, 0}, 2, 0, 3, 0)
}

// checkAuction checks who wins, and the price.
func checkAuction(t *testing.T, bids []int, n int, price int, winners ...int) {
	if got := impl.WinnersOf(bids, n); !sameInts(got, winners) {
		t.Errorf("WinnersOf(%v, %d) = %v, not %v", bids, n, got, winners)
	}
	if got := impl.PriceOf(bids, n); got != price {
		t.Errorf("PriceOf(%v, %d) = %d, not %d", bids, n, got, price)
	}
}

func TestGainOfEdges(t *testing.T) {
	bids := []int{10, 20, 15}
	// With one right the second person wins, and pays 15.
	checkGain(t, bids, 1, 1, 30, 15)
	checkGain(t, bids, 1, 1, 20, 5)
	checkGain(t, bids, 1, 1, 16, 1)
	checkGain(t, bids, 1, 1, 15, 0)
	checkGain(t, bids, 1, 1, 14, -1)
	checkGain(t, bids, 1, 1, 0, -15)
	checkGain(t, bids, 1, 1, 10000, 9985)
	for _, worth := range []int{0, 10, 30, 10000} {
		checkGain(t, bids, 1, 0, worth, 0)
		checkGain(t, bids, 1, 2, worth, 0)
		// Nobody wins without rights, and with as many as bids nobody pays.
		checkGain(t, bids, 0, 1, worth, 0)
		checkGain(t, bids, 3, 0, worth, worth)
		checkGain(t, bids, 3, 1, worth, worth)
		checkGain(t, bids, 4, 2, worth, worth)
		checkGain(t, bids, 8, 2, worth, worth)
	}
	checkGain(t, bids, 2, 2, 30, 20)
	checkGain(t, bids, 2, 1, 30, 20)
	checkGain(t, bids, 2, 0, 30, 0)
	checkGain(t, []int{0}, 1, 0, 0, 0)
	checkGain(t, []int{0}, 1, 0, 10000, 10000)
	checkGain(t, []int{0}, 0, 0, 10000, 0)
	checkGain(t, []int{10000}, 1, 0, 0, 0)
	checkGain(t, []int{10000, 10000}, 1, 0, 0, -10000)
	checkGain(t, []int{10000, 10000}, 1, 0, 10000, 0)
}

func TestGainOfABidEqualToThePrice(t *testing.T) {
	checkGain(t, []int{5, 5}, 1, 0, 5, 0)
	checkGain(t, []int{5, 5}, 1, 0, 7, 2)
	checkGain(t, []int{5, 5}, 1, 0, 4, -1)
	checkGain(t, []int{5, 5}, 1, 1, 7, 0)
	checkGain(t, []int{7, 9, 7, 9, 7}, 3, 0, 10, 3)
	checkGain(t, []int{7, 9, 7, 9, 7}, 3, 2, 10, 0)
	all := repeated(77, impl.MaxPeople)
	for i := range all {
		gain := 0
		if i < 3 {
			gain = 23
		}
		checkGain(t, all, 3, i, 100, gain)
	}
}

func checkGain(t *testing.T, bids []int, n int, i int, worth int, want int) {
	if got := impl.GainOf(bids, n, i, worth); got != want {
		t.Errorf("GainOf(%v, %d, %d, %d) = %d, not %d", bids, n, i, worth, got, want)
	}
}

func TestAuctionFunctionsOfOtherBids(t *testing.T) {
	for _, bids := range badBids() {
		for n := 0; n <= impl.MaxPeople; n++ {
			checkNoAuction(t, bids, n)
		}
	}
}

func TestAuctionFunctionsOfOtherRights(t *testing.T) {
	for _, n := range badRights() {
		for _, bids := range append(sampleBids(), badBids()...) {
			checkNoAuction(t, bids, n)
		}
	}
}

// checkNoAuction checks what the functions return for bids or rights that are not valid.
func checkNoAuction(t *testing.T, bids []int, n int) {
	checkAuction(t, bids, n, -1)
	for i := range bids {
		checkGain(t, bids, n, i, 5000, 0)
	}
	for _, i := range []int{0, -1, len(bids)} {
		checkGain(t, bids, n, i, 5000, 0)
	}
}

func TestGainOfOtherPeopleAndWorths(t *testing.T) {
	for _, bids := range sampleBids() {
		for n := 0; n <= impl.MaxPeople; n++ {
			for _, i := range []int{-1, -len(bids) - 1, len(bids), len(bids) + 1, impl.MaxPeople, greatestInt, leastInt} {
				checkGain(t, bids, n, i, 5000, 0)
				checkGain(t, bids, n, i, -1, 0)
			}
			for i := range bids {
				for _, worth := range badAmounts() {
					checkGain(t, bids, n, i, worth, 0)
				}
			}
		}
	}
}

func TestValidClausesEdges(t *testing.T) {
	for _, list := range [][]impl.Clause{
		nil, {}, {{}}, {paid(0, 0, 1)}, {paid(999, 999, -10000)}, {paid(0, 999, 10000)}, {paid(998, 999, 0)}, threeClauses(),
		{paid(0, 9, 10000), paid(0, 9, 10000)}, repeatedClause(paid(0, 999, -10000), 20), nestedClauses(20, 10000),
	} {
		if !impl.ValidClauses(list) {
			t.Errorf("ValidClauses(%v) is false", list)
		}
	}
	for _, list := range badContracts() {
		if impl.ValidClauses(list) {
			t.Errorf("ValidClauses(%v) is true", list)
		}
	}
}

func TestPayForEdges(t *testing.T) {
	for _, thick := range []int{0, 1, 500, 999} {
		checkPay(t, nil, thick, 0)
		checkPay(t, []impl.Clause{{}}, thick, 0)
		checkPay(t, []impl.Clause{paid(0, 999, 7)}, thick, 7)
		checkPay(t, []impl.Clause{paid(0, 999, -10000)}, thick, -10000)
		checkPay(t, repeatedClause(paid(0, 999, 10000), 20), thick, 200000)
		checkPay(t, repeatedClause(paid(0, 999, -10000), 20), thick, -200000)
		checkPay(t, repeatedClause(paid(0, 999, -10000), 21), thick, 0)
		checkPay(t, []impl.Clause{paid(0, 999, 10000), paid(0, 999, -10000)}, thick, 0)
	}
	// Low and High, just before Low, and just behind High.
	checkPays(t, []impl.Clause{paid(0, 0, 5)}, []int{0, 1, 999}, 5, 0, 0)
	checkPays(t, []impl.Clause{paid(999, 999, -5)}, []int{0, 998, 999}, 0, 0, -5)
	checkPays(t, []impl.Clause{paid(100, 200, 3)}, []int{0, 99, 100, 101, 199, 200, 201, 999}, 0, 0, 3, 3, 3, 3, 0, 0)
	checkPays(t, []impl.Clause{paid(100, 100, 3)}, []int{99, 100, 101}, 0, 3, 0)
	checkPays(t, threeClauses(), []int{0, 39, 40, 49, 50, 59, 60, 61, 99, 100}, -10, -10, -5, -5, 5, 5, 0, 5, 5, 0)
	// Clauses that overlap, lie one in the other, touch, and begin just behind another one.
	checkPays(t, []impl.Clause{paid(10, 30, 4), paid(20, 40, 5)}, []int{9, 10, 19, 20, 30, 31, 40, 41}, 0, 4, 4, 9, 9, 5, 5, 0)
	checkPays(t, []impl.Clause{paid(10, 40, 4), paid(20, 30, 5)}, []int{19, 20, 30, 31}, 4, 9, 9, 4)
	checkPays(t, []impl.Clause{paid(10, 20, 4), paid(20, 30, 5)}, []int{19, 20, 21}, 4, 9, 5)
	checkPays(t, []impl.Clause{paid(10, 20, 4), paid(21, 30, 5)}, []int{20, 21}, 4, 5)
}

// checkPays checks what is paid for each one of some thicknesses.
func checkPays(t *testing.T, list []impl.Clause, thicks []int, want ...int) {
	for i, thick := range thicks {
		checkPay(t, list, thick, want[i])
	}
}

func checkPay(t *testing.T, list []impl.Clause, thick int, want int) {
	if got := impl.PayFor(list, thick); got != want {
		t.Errorf("PayFor(%v, %d) = %d, not %d", list, thick, got, want)
	}
}

func TestPayForOtherThicknesses(t *testing.T) {
	for _, thick := range badThicks() {
		for _, list := range append(sampleContracts(), badContracts()...) {
			checkPay(t, list, thick, 0)
		}
	}
}

func TestWorstPayEdges(t *testing.T) {
	checkWorst(t, nil, 0, 0)
	checkWorst(t, []impl.Clause{{}}, 0, 0)
	checkWorst(t, threeClauses(), -10, 0)
	checkWorst(t, threeClauses()[1:], 0, 0)
	// Several thicknesses pay as little.
	checkWorst(t, []impl.Clause{paid(100, 200, -3)}, -3, 100)
	checkWorst(t, []impl.Clause{paid(500, 600, -3), paid(100, 200, -3)}, -3, 100)
	checkWorst(t, []impl.Clause{paid(500, 600, -4), paid(100, 200, -3)}, -4, 500)
	checkWorst(t, []impl.Clause{paid(100, 200, -3), paid(150, 300, -1)}, -4, 150)
	checkWorst(t, []impl.Clause{paid(0, 999, -10000)}, -10000, 0)
	// The first and the last thickness.
	checkWorst(t, []impl.Clause{paid(0, 0, -1)}, -1, 0)
	checkWorst(t, []impl.Clause{paid(999, 999, -1)}, -1, 999)
	checkWorst(t, []impl.Clause{paid(998, 998, -1)}, -1, 998)
	// The least pay is 0, with greater ones before it, and in the midst of greater ones.
	checkWorst(t, []impl.Clause{paid(0, 0, 1)}, 0, 1)
	checkWorst(t, []impl.Clause{paid(0, 998, 7)}, 0, 999)
	checkWorst(t, []impl.Clause{paid(1, 999, 7)}, 0, 0)
	checkWorst(t, []impl.Clause{paid(0, 499, 7), paid(501, 999, 7)}, 0, 500)
	checkWorst(t, []impl.Clause{paid(0, 999, 7), paid(300, 400, -7)}, 0, 300)
	// It is greater than 0 everywhere.
	checkWorst(t, []impl.Clause{paid(0, 999, 10000)}, 10000, 0)
	checkWorst(t, []impl.Clause{paid(0, 999, 7), paid(300, 400, -6)}, 1, 300)
	checkWorst(t, []impl.Clause{paid(0, 999, 7), paid(0, 299, 1)}, 7, 300)
	checkWorst(t, []impl.Clause{paid(0, 998, 7), paid(999, 999, 6)}, 6, 999)
	checkWorst(t, repeatedClause(paid(0, 999, 10000), 20), 200000, 0)
	checkWorst(t, repeatedClause(paid(7, 7, -10000), 20), -200000, 7)
}

func checkWorst(t *testing.T, list []impl.Clause, want int, at int) {
	if got, thick := impl.WorstPay(list); got != want || thick != at {
		t.Errorf("WorstPay(%v) = %d, %d, not %d, %d", list, got, thick, want, at)
	}
}

func TestSimplifyEdges(t *testing.T) {
	checkSimple(t, nil)
	checkSimple(t, []impl.Clause{{}})
	checkSimple(t, []impl.Clause{paid(0, 999, 0)})
	checkSimple(t, repeatedClause(paid(0, 999, 0), 20))
	for _, clause := range []impl.Clause{paid(0, 0, 1), paid(999, 999, -1), paid(0, 999, 10000), paid(0, 999, -10000), paid(7, 8, 5)} {
		checkSimple(t, []impl.Clause{clause}, clause)
		checkSimple(t, []impl.Clause{clause, paid(3, 600, 0)}, clause)
		checkSimple(t, []impl.Clause{paid(0, 999, 0), clause}, clause)
	}
	checkSimple(t, threeClauses(), paid(0, 39, -10), paid(40, 49, -5), paid(50, 59, 5), paid(61, 99, 5))
	checkSimple(t, []impl.Clause{paid(900, 950, 1), paid(5, 7, 2), paid(100, 100, 3)}, paid(5, 7, 2), paid(100, 100, 3), paid(900, 950, 1))
	// Clauses that overlap, lie one in the other, and touch.
	checkSimple(t, []impl.Clause{paid(10, 30, 4), paid(20, 40, 5)}, paid(10, 19, 4), paid(20, 30, 9), paid(31, 40, 5))
	checkSimple(t, []impl.Clause{paid(20, 40, 5), paid(10, 30, 4)}, paid(10, 19, 4), paid(20, 30, 9), paid(31, 40, 5))
	checkSimple(t, []impl.Clause{paid(10, 40, 4), paid(20, 30, 5)}, paid(10, 19, 4), paid(20, 30, 9), paid(31, 40, 4))
	checkSimple(t, []impl.Clause{paid(10, 40, 4), paid(10, 30, 5)}, paid(10, 30, 9), paid(31, 40, 4))
	checkSimple(t, []impl.Clause{paid(10, 40, 4), paid(20, 40, 5)}, paid(10, 19, 4), paid(20, 40, 9))
	checkSimple(t, []impl.Clause{paid(10, 40, 4), paid(10, 40, 5)}, paid(10, 40, 9))
	checkSimple(t, []impl.Clause{paid(10, 20, 4), paid(20, 30, 4)}, paid(10, 19, 4), paid(20, 20, 8), paid(21, 30, 4))
	checkSimple(t, []impl.Clause{paid(998, 999, 4), paid(999, 999, 4)}, paid(998, 998, 4), paid(999, 999, 8))
}

func TestSimplifyClausesBehindEachOther(t *testing.T) {
	checkSimple(t, []impl.Clause{paid(10, 20, 4), paid(21, 30, 4)}, paid(10, 30, 4))
	checkSimple(t, []impl.Clause{paid(21, 30, 4), paid(10, 20, 4)}, paid(10, 30, 4))
	checkSimple(t, []impl.Clause{paid(10, 20, 4), paid(21, 30, 5)}, paid(10, 20, 4), paid(21, 30, 5))
	checkSimple(t, []impl.Clause{paid(10, 20, 4), paid(21, 30, -4)}, paid(10, 20, 4), paid(21, 30, -4))
	checkSimple(t, []impl.Clause{paid(10, 20, 4), paid(22, 30, 4)}, paid(10, 20, 4), paid(22, 30, 4))
	checkSimple(t, []impl.Clause{paid(10, 20, 4), paid(21, 21, 0), paid(22, 30, 4)}, paid(10, 20, 4), paid(22, 30, 4))
	checkSimple(t, []impl.Clause{paid(10, 20, 4), paid(22, 30, 4), paid(21, 21, 4)}, paid(10, 30, 4))
	checkSimple(t, []impl.Clause{paid(0, 0, 4), paid(1, 999, 4)}, paid(0, 999, 4))
	checkSimple(t, []impl.Clause{paid(0, 998, 4), paid(999, 999, 4)}, paid(0, 999, 4))
	// Sums that are equal, of different clauses.
	checkSimple(t, []impl.Clause{paid(10, 20, 4), paid(21, 30, 1), paid(21, 30, 3)}, paid(10, 30, 4))
	checkSimple(t, []impl.Clause{paid(10, 30, 6), paid(15, 20, -2), paid(15, 18, 2), paid(19, 20, 2)}, paid(10, 30, 6))
	checkSimple(t, clausesInTurn(20, 50, 1, []int{5}), paid(0, 999, 5))
}

func TestSimplifyClausesThatCancel(t *testing.T) {
	checkSimple(t, []impl.Clause{paid(10, 40, 4), paid(10, 40, -4)})
	checkSimple(t, []impl.Clause{paid(0, 999, 10000), paid(0, 999, -10000)})
	checkSimple(t, []impl.Clause{paid(10, 40, 4), paid(10, 25, -4), paid(26, 40, -4)})
	checkSimple(t, []impl.Clause{paid(10, 40, 4), paid(10, 40, 3), paid(10, 40, -7)})
	checkSimple(t, []impl.Clause{paid(10, 40, 4), paid(20, 30, -4)}, paid(10, 19, 4), paid(31, 40, 4))
	checkSimple(t, []impl.Clause{paid(10, 40, 4), paid(10, 30, -4)}, paid(31, 40, 4))
	checkSimple(t, []impl.Clause{paid(10, 40, 4), paid(20, 40, -4)}, paid(10, 19, 4))
	checkSimple(t, []impl.Clause{paid(10, 40, 4), paid(30, 50, -4)}, paid(10, 29, 4), paid(41, 50, -4))
	checkSimple(t, []impl.Clause{paid(0, 999, 4), paid(1, 998, -4)}, paid(0, 0, 4), paid(999, 999, 4))
	checkSimple(t, []impl.Clause{paid(0, 999, 4), paid(0, 0, -4), paid(999, 999, -4)}, paid(1, 998, 4))
}

func TestSimplifyGreatSums(t *testing.T) {
	for _, list := range greatSums() {
		checkSimple(t, list)
	}
	// Sums of just MaxAmount, and of MaxAmount although the first clauses are more.
	checkSimple(t, []impl.Clause{paid(0, 9, 9999), paid(0, 9, 1)}, paid(0, 9, 10000))
	checkSimple(t, []impl.Clause{paid(0, 9, -9999), paid(0, 9, -1)}, paid(0, 9, -10000))
	checkSimple(t, []impl.Clause{paid(0, 9, 10000), paid(0, 9, 1)})
	checkSimple(t, []impl.Clause{paid(0, 9, -10000), paid(0, 9, -1)})
	checkSimple(t, []impl.Clause{paid(0, 9, 10000), paid(0, 9, 10000), paid(0, 9, -10000)}, paid(0, 9, 10000))
	checkSimple(t, []impl.Clause{paid(0, 9, -10000), paid(0, 9, -10000), paid(0, 9, 10000)}, paid(0, 9, -10000))
	checkSimple(t, []impl.Clause{paid(0, 9, 10000), paid(0, 9, 10000), paid(0, 9, -9999)})
	checkSimple(t, repeatedClause(paid(0, 999, 500), 20), paid(0, 999, 10000))
	checkSimple(t, repeatedClause(paid(0, 999, 500), 21))
	// The sum is too great at the first or at the last thickness alone.
	checkSimple(t, []impl.Clause{paid(0, 999, 10000), paid(0, 0, 1)})
	checkSimple(t, []impl.Clause{paid(0, 999, 10000), paid(999, 999, 1)})
	checkSimple(t, []impl.Clause{paid(0, 999, -10000), paid(999, 999, -1)})
	checkSimple(t, []impl.Clause{paid(0, 998, 10000), paid(999, 999, 1)}, paid(0, 998, 10000), paid(999, 999, 1))
}

func TestSimplifyToMoreThanMaxDebtsClauses(t *testing.T) {
	want := []impl.Clause{}
	for i := 0; i < 19; i++ {
		want = append(want, paid(10*i, 10*i+9, 500*(i+1)))
	}
	want = append(want, paid(190, 809, 10000))
	for i := 18; i >= 0; i-- {
		want = append(want, paid(990-10*i, 999-10*i, 500*(i+1)))
	}
	checkSimple(t, nestedClauses(20, 500), want...)
	if len(want) != 39 || impl.ValidClauses(want) {
		t.Errorf("%v has %d clauses", want, len(want))
	}
	if got := len(impl.Simplify(nestedClauses(11, -3))); got != 21 {
		t.Errorf("Simplify returns %d clauses, not 21", got)
	}
	if got := len(impl.Simplify(clausesInTurn(20, 50, 1, []int{5, -5}))); got != 20 {
		t.Errorf("Simplify returns %d clauses, not 20", got)
	}
}

func checkSimple(t *testing.T, list []impl.Clause, want ...impl.Clause) {
	if got := impl.Simplify(list); !sameClauses(got, want) {
		t.Errorf("Simplify(%v) = %v, not %v", list, got, want)
	}
}

func TestContractFunctionsOfOtherContracts(t *testing.T) {
	for _, list := range badContracts() {
		for _, thick := range []int{0, 1, 9, 500, impl.MaxThick} {
			checkPay(t, list, thick, 0)
		}
		checkWorst(t, list, 0, -1)
		checkSimple(t, list)
	}
}
