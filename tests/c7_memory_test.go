package tests

import (
	"testing"

	"loop.example/iceharvest/impl"
)

// callDebts calls every function of the layer that takes debts.
func callDebts(list []impl.Debt) {
	impl.ValidDebts(list)
	impl.BalancesOf(list)
	impl.SettleDebts(list)
}

// callBids calls every function of the layer that takes bids.
func callBids(bids []int, n int) {
	impl.WinnersOf(bids, n)
	impl.PriceOf(bids, n)
	impl.GainOf(bids, n, 0, 50)
	impl.GainOf(bids, n, len(bids)-1, 50)
}

// callClauses calls every function of the layer that takes clauses.
func callClauses(list []impl.Clause) {
	impl.ValidClauses(list)
	impl.PayFor(list, 20)
	impl.PayFor(list, -1)
	impl.WorstPay(list)
	impl.Simplify(list)
}

func TestDebtsAreNotWrittenInto(t *testing.T) {
	for _, list := range append(sampleDebts(), badDebts()...) {
		before := copyDebts(list)
		callDebts(list)
		if !sameDebts(list, before) {
			t.Fatalf("%v became %v", before, list)
		}
	}
}

func TestBidsAreNotWrittenInto(t *testing.T) {
	for _, bids := range append(sampleBids(), badBids()...) {
		before := copyInts(bids)
		for n := -1; n <= impl.MaxPeople+1; n++ {
			callBids(bids, n)
		}
		if !sameInts(bids, before) {
			t.Fatalf("%v became %v", before, bids)
		}
	}
}

func TestClausesAreNotWrittenInto(t *testing.T) {
	lists := append(sampleContracts(), greatSums()...)
	for _, list := range append(lists, badContracts()...) {
		before := copyClauses(list)
		callClauses(list)
		if !sameClauses(list, before) {
			t.Fatalf("%v became %v", before, list)
		}
	}
}

// debtsWithin returns a list of which the first three are valid debts, with others behind them.
func debtsWithin() []impl.Debt {
	return append(threeDebts(), owed(77, 77, 77), owed(78, 78, 78))
}

// bidsWithin returns a list of which the first three are valid bids, with other numbers behind them.
func bidsWithin() []int {
	return []int{10, 20, 15, -77, -78}
}

// clausesWithin returns a list of which the first three are valid clauses, with others behind them.
func clausesWithin() []impl.Clause {
	return append(threeClauses(), paid(77, 7, 77), paid(78, 8, 78))
}

func TestDealsWriteBehindNoArgument(t *testing.T) {
	debts := debtsWithin()
	bids := bidsWithin()
	clauses := clausesWithin()
	for n := 0; n <= 3; n++ {
		callDebts(debts[:n])
		callClauses(clauses[:n])
		for rights := 0; rights <= 4; rights++ {
			callBids(bids[:n], rights)
		}
	}
	if !sameDebts(debts, debtsWithin()) || !sameInts(bids, bidsWithin()) || !sameClauses(clauses, clausesWithin()) {
		t.Errorf("behind the arguments there is %v, %v and %v", debts, bids, clauses)
	}
}

func TestBalancesAreNewMemory(t *testing.T) {
	whole := debtsWithin()
	for n := 0; n <= 3; n++ {
		checkOwnMemory(t, impl.BalancesOf(whole[:n]), impl.BalancesOf(whole[:n]))
	}
	checkBalances(t, whole[:3], -10, 0, 15, -5, 0, 0, 0, 0)
	checkBalances(t, whole[:0], 0, 0, 0, 0, 0, 0, 0, 0)
	if !sameDebts(whole, debtsWithin()) {
		t.Errorf("balances share memory with the argument: %v", whole)
	}
}

func TestWinnersAreNewMemory(t *testing.T) {
	whole := bidsWithin()
	for n := 0; n <= 3; n++ {
		for rights := 0; rights <= 4; rights++ {
			checkOwnMemory(t, impl.WinnersOf(whole[:n], rights), impl.WinnersOf(whole[:n], rights))
			if !sameInts(whole, bidsWithin()) {
				t.Fatalf("winners share memory with the argument: %v", whole)
			}
		}
	}
	checkAuction(t, whole[:3], 2, 10, 1, 2)
	checkAuction(t, whole[:2], 2, 0, 1, 0)
}

func TestSettledDebtsAreNewMemory(t *testing.T) {
	whole := debtsWithin()
	for n := 0; n <= 3; n++ {
		first := impl.SettleDebts(whole[:n])
		second := impl.SettleDebts(whole[:n])
		before := copyDebts(second)
		overwriteDebts(first)
		if !sameDebts(second, before) || !sameDebts(whole, debtsWithin()) {
			t.Fatalf("settled debts share memory: %v became %v, or the argument %v", before, second, whole)
		}
	}
	// One debt alone, which is settled by itself.
	checkSettled(t, whole[:1], owed(0, 1, 10))
	checkSettled(t, whole[:3], owed(0, 2, 10), owed(3, 2, 5))
}

// overwriteDebts writes other debts into a list, and behind it.
func overwriteDebts(list []impl.Debt) {
	longer := append(list, owed(-8, -8, -8), owed(-9, -9, -9))
	for i := range list {
		list[i] = owed(-7, -7, -7)
		longer[i] = owed(-7, -7, -7)
	}
}

func TestSimpleContractsAreNewMemory(t *testing.T) {
	whole := clausesWithin()
	for n := 0; n <= 3; n++ {
		first := impl.Simplify(whole[:n])
		second := impl.Simplify(whole[:n])
		before := copyClauses(second)
		overwriteClauses(first)
		if !sameClauses(second, before) || !sameClauses(whole, clausesWithin()) {
			t.Fatalf("simple contracts share memory: %v became %v, or the argument %v", before, second, whole)
		}
	}
	// One clause alone, which is simple.
	checkSimple(t, whole[:1], paid(0, 49, -10))
	checkSimple(t, whole[:3], paid(0, 39, -10), paid(40, 49, -5), paid(50, 59, 5), paid(61, 99, 5))
}

// overwriteClauses writes other clauses into a list, and behind it.
func overwriteClauses(list []impl.Clause) {
	longer := append(list, paid(-8, -8, -8), paid(-9, -9, -9))
	for i := range list {
		list[i] = paid(-7, -7, -7)
		longer[i] = paid(-7, -7, -7)
	}
}

func TestDealsKeepNoDebts(t *testing.T) {
	list := threeDebts()
	balances := impl.BalancesOf(list)
	settled := impl.SettleDebts(list)
	list[2] = owed(2, 0, 10)
	if !sameInts(balances, []int{-10, 0, 15, -5, 0, 0, 0, 0}) || !sameDebts(settled, []impl.Debt{owed(0, 2, 10), owed(3, 2, 5)}) {
		t.Errorf("debts are kept: %v, %v", balances, settled)
	}
	checkBalances(t, list, 0, 0, 0, 0, 0, 0, 0, 0)
	checkSettled(t, list)
}

func TestDealsKeepNoBids(t *testing.T) {
	bids := []int{10, 20, 15}
	winners := impl.WinnersOf(bids, 2)
	bids[0] = 30
	if !sameInts(winners, []int{1, 2}) {
		t.Errorf("bids are kept: %v", winners)
	}
	checkAuction(t, bids, 2, 15, 0, 1)
	checkGain(t, bids, 2, 0, 30, 15)
}

func TestDealsKeepNoClauses(t *testing.T) {
	list := threeClauses()
	simple := impl.Simplify(list)
	list[0].High = 39
	list[2].Pay = 0
	if !sameClauses(simple, []impl.Clause{paid(0, 39, -10), paid(40, 49, -5), paid(50, 59, 5), paid(61, 99, 5)}) {
		t.Errorf("clauses are kept: %v", simple)
	}
	checkSimple(t, list, paid(0, 39, -10), paid(40, 99, 5))
	checkPay(t, list, 45, 5)
	checkWorst(t, list, -10, 0)
}
