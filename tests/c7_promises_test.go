package tests

import (
	"testing"

	"loop.example/iceharvest/impl"
)

// allDebts returns valid debts, few and many, and all small ones.
func allDebts() [][]impl.Debt {
	return append(sampleDebts(), smallDebts()...)
}

func TestPromise75DebtsCanBePaid(t *testing.T) {
	for _, list := range allDebts() {
		if !impl.ValidDebts(list) {
			t.Errorf("ValidDebts(%v) is false", list)
		}
		for i := range list {
			if less := debtsWithout(list, i); !impl.ValidDebts(less) {
				t.Errorf("ValidDebts(%v) is false, but not ValidDebts(%v)", less, list)
			}
		}
	}
}

func TestPromise76WhatOneOwesAnotherOneGets(t *testing.T) {
	for _, list := range allDebts() {
		balances := impl.BalancesOf(list)
		if want := balancesByCoins(list); !sameInts(balances, want) {
			t.Fatalf("BalancesOf(%v) = %v, not %v", list, balances, want)
		}
		if len(balances) != impl.MaxPeople || sumOf(balances) != 0 {
			t.Fatalf("BalancesOf(%v) = %v", list, balances)
		}
		back := impl.BalancesOf(otherWay(list))
		if !sameInts(back, negated(balances)) {
			t.Fatalf("BalancesOf(%v) = %v, but %v the other way round", list, balances, back)
		}
	}
}

func TestPromise77FewDebtsSettleAll(t *testing.T) {
	for _, list := range allDebts() {
		settled := impl.SettleDebts(list)
		balances := balancesByCoins(list)
		if got := balancesByCoins(settled); !sameInts(got, balances) {
			t.Fatalf("SettleDebts(%v) = %v, with the balances %v, not %v", list, settled, got, balances)
		}
		if len(settled) > 0 && len(settled) >= countOpen(balances) {
			t.Fatalf("SettleDebts(%v) = %v, for %d people", list, settled, countOpen(balances))
		}
		checkOneSide(t, settled, balances)
	}
}

// countOpen returns how many people owe or get something.
func countOpen(balances []int) int {
	count := 0
	for _, balance := range balances {
		if balance != 0 {
			count++
		}
	}
	return count
}

// checkOneSide checks that each debt is from somebody who owes to somebody who gets something, with an amount of 1 or more.
func checkOneSide(t *testing.T, settled []impl.Debt, balances []int) {
	for _, debt := range settled {
		if balances[debt.From] >= 0 || balances[debt.To] <= 0 || debt.Amount < 1 {
			t.Fatalf("%v is settled with the balances %v", settled, balances)
		}
	}
}

func TestPromise77TheFirstOneWhoOwesPaysTheFirstOneWhoGets(t *testing.T) {
	for _, list := range allDebts() {
		if got, want := impl.SettleDebts(list), settledByCoins(list); !sameDebts(got, want) {
			t.Fatalf("SettleDebts(%v) = %v, not %v", list, got, want)
		}
	}
}

func TestPromise78SettledDebtsStay(t *testing.T) {
	count := 0
	for _, list := range allDebts() {
		settled := impl.SettleDebts(list)
		if !impl.ValidDebts(settled) {
			continue
		}
		if len(settled) > 0 {
			count++
		}
		if again := impl.SettleDebts(settled); !sameDebts(again, settled) {
			t.Fatalf("SettleDebts(%v) = %v", settled, again)
		}
	}
	if count < 1000 {
		t.Errorf("only %d settled debts are valid", count)
	}
}

func TestPromise78RingsSettleToNone(t *testing.T) {
	for _, list := range ringsOfDebts() {
		if got := impl.SettleDebts(list); !impl.ValidDebts(list) || len(got) != 0 {
			t.Errorf("SettleDebts(%v) = %v", list, got)
		}
	}
}

// allBids returns valid bids, few and many, and all small ones.
func allBids() [][]int {
	return append(sampleBids(), smallBids()...)
}

func TestPromise79TheHighestBidsWin(t *testing.T) {
	for _, bids := range allBids() {
		for n := 0; n <= impl.MaxPeople; n++ {
			winners := impl.WinnersOf(bids, n)
			if want := winnersByTurns(bids, n); !sameInts(winners, want) {
				t.Fatalf("WinnersOf(%v, %d) = %v, not %v", bids, n, winners, want)
			}
			checkWinners(t, bids, winners)
		}
	}
}

// checkWinners checks that no winner is there twice, and that none has a lesser bid than somebody who does not win.
func checkWinners(t *testing.T, bids []int, winners []int) {
	for place, winner := range winners {
		if hasNumber(winners[:place], winner) {
			t.Fatalf("the winners of %v are %v", bids, winners)
		}
		for other := range bids {
			if !hasNumber(winners, other) && bids[other] > bids[winner] {
				t.Fatalf("the winners of %v are %v, but not %d", bids, winners, other)
			}
		}
	}
}

func TestPromise80NobodyPaysMoreThanTheBid(t *testing.T) {
	for _, bids := range allBids() {
		for n := 0; n <= impl.MaxPeople; n++ {
			price := impl.PriceOf(bids, n)
			if want := priceBySorting(bids, n); price != want {
				t.Fatalf("PriceOf(%v, %d) = %d, not %d", bids, n, price, want)
			}
			winners := impl.WinnersOf(bids, n)
			for i, bid := range bids {
				wins := hasNumber(winners, i)
				if wins && price > bid || !wins && price < bid {
					t.Fatalf("PriceOf(%v, %d) = %d, with the winners %v", bids, n, price, winners)
				}
			}
		}
	}
}

func TestPromise81HonestBidsAreBest(t *testing.T) {
	for _, bids := range allBids() {
		for n := 0; n <= impl.MaxPeople; n++ {
			for i := range bids {
				for _, worth := range bidsToTry(bids) {
					checkHonest(t, bidWith(bids, i, worth), n, i)
				}
			}
		}
	}
}

// checkHonest checks that somebody who bids the worth loses nothing, and gains no more with any other bid.
func checkHonest(t *testing.T, honest []int, n int, i int) {
	worth := honest[i]
	best := impl.GainOf(honest, n, i, worth)
	if best < 0 {
		t.Fatalf("GainOf(%v, %d, %d, %d) = %d", honest, n, i, worth, best)
	}
	for _, bid := range bidsToTry(honest) {
		other := bidWith(honest, i, bid)
		if gain := impl.GainOf(other, n, i, worth); gain > best {
			t.Fatalf("GainOf(%v, %d, %d, %d) = %d, but %d of %v", other, n, i, worth, gain, best, honest)
		}
	}
}

// bidsToTry returns bids at both limits and about those of others, each once.
func bidsToTry(bids []int) []int {
	list := []int{0, impl.MaxAmount}
	for _, bid := range bids {
		for near := bid - 1; near <= bid+1; near++ {
			if near >= 0 && near <= impl.MaxAmount && !hasNumber(list, near) {
				list = append(list, near)
			}
		}
	}
	return list
}

func TestPromise81GainsAreWorthLessPrice(t *testing.T) {
	for _, bids := range allBids() {
		for n := 0; n <= impl.MaxPeople; n++ {
			winners := winnersByTurns(bids, n)
			for i := range bids {
				for _, worth := range bidsToTry(bids) {
					want := 0
					if hasNumber(winners, i) {
						want = worth - priceBySorting(bids, n)
					}
					checkGain(t, bids, n, i, worth, want)
				}
			}
		}
	}
}

// allContracts returns valid contracts, few and many, those with great sums among them.
func allContracts() [][]impl.Clause {
	return append(sampleContracts(), greatSums()...)
}

func TestPromise82ClausesCanBeStruckOut(t *testing.T) {
	for _, list := range append(allContracts(), smallContracts()...) {
		if !impl.ValidClauses(list) {
			t.Errorf("ValidClauses(%v) is false", list)
		}
		for i := range list {
			if less := clausesWithout(list, i); !impl.ValidClauses(less) {
				t.Errorf("ValidClauses(%v) is false, but not ValidClauses(%v)", less, list)
			}
		}
	}
}

func TestPromise83ClausesAddUp(t *testing.T) {
	for _, list := range allContracts() {
		half := len(list) / 2
		for thick, want := range paysByClauses(list) {
			pay := impl.PayFor(list, thick)
			if pay != want {
				t.Fatalf("PayFor(%v, %d) = %d, not %d", list, thick, pay, want)
			}
			first := impl.PayFor(list[:half], thick)
			others := impl.PayFor(list[half:], thick)
			if pay != first+others {
				t.Fatalf("PayFor(%v, %d) = %d, but its parts are %d and %d", list, thick, pay, first, others)
			}
		}
	}
}

func TestPromise84NothingIsWorse(t *testing.T) {
	for _, list := range append(allContracts(), smallContracts()...) {
		least, worst := impl.WorstPay(list)
		if impl.PayFor(list, worst) != least {
			t.Fatalf("WorstPay(%v) = %d, %d, but PayFor is %d", list, least, worst, impl.PayFor(list, worst))
		}
		for thick, pay := range paysByClauses(list) {
			if pay < least || pay == least && thick < worst {
				t.Fatalf("WorstPay(%v) = %d, %d, but for %d it is %d", list, least, worst, thick, pay)
			}
		}
	}
}

func TestPromise84NoPayForIsWorse(t *testing.T) {
	for _, list := range allContracts() {
		least, _ := impl.WorstPay(list)
		for thick := 0; thick <= impl.MaxThick; thick++ {
			if pay := impl.PayFor(list, thick); pay < least {
				t.Fatalf("PayFor(%v, %d) = %d, but WorstPay is %d", list, thick, pay, least)
			}
		}
	}
}

func TestPromise85SimpleContractsPayTheSame(t *testing.T) {
	for _, list := range append(sampleContracts(), smallContracts()...) {
		simple := impl.Simplify(list)
		pays := paysByClauses(list)
		if !sameInts(paysByClauses(simple), pays) {
			t.Fatalf("Simplify(%v) = %v, which does not pay the same", list, simple)
		}
		if want := simpleByPays(pays); !sameClauses(simple, want) {
			t.Fatalf("Simplify(%v) = %v, not %v", list, simple, want)
		}
		checkApart(t, simple)
	}
}

// checkApart checks that clauses are in order without a thickness in common, that none has Pay 0, and that none just goes on with the Pay of the one before it.
func checkApart(t *testing.T, simple []impl.Clause) {
	for i, clause := range simple {
		if clause.Pay == 0 || clause.Low > clause.High {
			t.Fatalf("%v has the clause %v", simple, clause)
		}
		if i > 0 && clause.Low <= simple[i-1].High {
			t.Fatalf("%v has thicknesses in common", simple)
		}
		if i > 0 && clause.Low == simple[i-1].High+1 && clause.Pay == simple[i-1].Pay {
			t.Fatalf("%v has two clauses that are one", simple)
		}
	}
}

func TestPromise85PayForOfSimpleContracts(t *testing.T) {
	long := 0
	for _, list := range sampleContracts() {
		simple := impl.Simplify(list)
		if len(simple) > impl.MaxDebts {
			long++
			continue
		}
		for thick := 0; thick <= impl.MaxThick; thick++ {
			if pay := impl.PayFor(simple, thick); pay != impl.PayFor(list, thick) {
				t.Fatalf("PayFor(%v, %d) = %d, but it is simple of %v", simple, thick, pay, list)
			}
		}
		if again := impl.Simplify(simple); !sameClauses(again, simple) {
			t.Fatalf("Simplify(%v) = %v", simple, again)
		}
	}
	if long < 3 {
		t.Errorf("only %d simple contracts are too long", long)
	}
}

func TestPromise85GreatSumsAreNotSimple(t *testing.T) {
	for _, list := range append(greatSums(), sampleContracts()...) {
		if isTooGreat(paysByClauses(list)) && len(impl.Simplify(list)) != 0 {
			t.Errorf("Simplify(%v) = %v", list, impl.Simplify(list))
		}
	}
	for _, list := range greatSums() {
		if !impl.ValidClauses(list) || !isTooGreat(paysByClauses(list)) {
			t.Errorf("no sum of %v is too great", list)
		}
	}
}

func TestPromise86SimpleContractsAreAsBad(t *testing.T) {
	for _, list := range append(sampleContracts(), smallContracts()...) {
		simple := impl.Simplify(list)
		if len(simple) > impl.MaxDebts {
			continue
		}
		least, worst := impl.WorstPay(list)
		if pay, thick := impl.WorstPay(simple); pay != least || thick != worst {
			t.Fatalf("WorstPay(%v) = %d, %d, but %d, %d of %v", simple, pay, thick, least, worst, list)
		}
	}
}
