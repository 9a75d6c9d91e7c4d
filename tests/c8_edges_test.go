package tests

import (
	"testing"

	"loop.example/iceharvest/impl"
)

func TestSeasonConstants(t *testing.T) {
	if impl.MaxSold != 100000 || impl.MaxMoney != 9000000 || impl.MaxPrice != 1000 || impl.MaxEvents != 60 || impl.MaxDesk != 20 {
		t.Error("MaxSold, MaxMoney, MaxPrice, MaxEvents or MaxDesk")
	}
	if impl.WorkLoad != 2500 || impl.CakeThick != 50 || impl.EvCold != 0 || impl.EvCut != 1 || impl.EvSell != 2 || impl.EvMelt != 3 {
		t.Error("WorkLoad, CakeThick, EvCold, EvCut, EvSell or EvMelt")
	}
}

func TestValidSeasonEdges(t *testing.T) {
	for _, s := range append(seasonsAtLimits(),
		cornerSeason(), busySeason(),
		stocked([][]int{{0}}, 1, 1, 0, 0, 0, 0),
		stocked([][]int{{999}}, 1, 1, 12, 0, 0, 9000000),
		stocked([][]int{{999}}, 9, 1, 108, 0, 0, 0),
		stocked([][]int{{999}}, 1, 9, 108, 0, 0, 0),
		stocked(evenGrid(9, 9, 999), 9, 9, 972, 99028, 0, 1),
		stocked(evenGrid(9, 9, 0), 9, 9, 0, 0, 100000, 0),
		stocked(evenGrid(1, 9, 5), 1, 9, 0, 50000, 50000, 0),
		stocked(evenGrid(9, 1, 5), 9, 1, 1, 50000, 49999, 0),
	) {
		if !impl.ValidSeason(s) {
			t.Errorf("ValidSeason(%v) is false", s)
		}
	}
	for _, s := range badSeasons() {
		if impl.ValidSeason(s) {
			t.Errorf("ValidSeason(%v) is true", s)
		}
	}
}

func TestNewSeasonEdges(t *testing.T) {
	for _, p := range [][][]int{{{0}}, {{999}}, cornerPond(), evenGrid(9, 9, 999), evenGrid(1, 9, 0), evenGrid(9, 1, 50)} {
		for _, side := range []int{1, 2, 8, 9} {
			checkSeason(t, impl.NewSeason(p, side, 3), stocked(p, side, 3, 0, 0, 0, 0))
			checkSeason(t, impl.NewSeason(p, 3, side), stocked(p, 3, side, 0, 0, 0, 0))
		}
	}
	for _, p := range badPonds() {
		checkSeason(t, impl.NewSeason(p, 2, 2), impl.Season{})
	}
	for _, side := range badHouseSides() {
		checkSeason(t, impl.NewSeason(cornerPond(), side, 2), impl.Season{})
		checkSeason(t, impl.NewSeason(cornerPond(), 2, side), impl.Season{})
		checkSeason(t, impl.NewSeason(cornerPond(), side, side), impl.Season{})
	}
}

func checkSeason(t *testing.T, got impl.Season, want impl.Season) {
	if !sameSeason(got, want) {
		t.Errorf("there is %v, not %v", got, want)
	}
}

func checkApplied(t *testing.T, s impl.Season, e impl.Event, want impl.Season) {
	if got, ok := impl.ApplyEvent(s, e); !ok || !sameSeason(got, want) {
		t.Errorf("ApplyEvent(%v, %v) = %v, %v, not %v", s, e, got, ok, want)
	}
}

func checkNotApplied(t *testing.T, s impl.Season, e impl.Event) {
	if got, ok := impl.ApplyEvent(s, e); ok || !sameSeason(got, impl.Season{}) {
		t.Errorf("ApplyEvent(%v, %v) = %v, %v", s, e, got, ok)
	}
}

func TestColdEdges(t *testing.T) {
	s := busySeason()
	checkApplied(t, s, coldFor(), s)
	checkApplied(t, s, coldFor(0), s)
	checkApplied(t, s, coldFor(19), s)
	checkApplied(t, s, coldFor(-50), stocked([][]int{{101, 62}, {15, 121}}, 2, 2, 20, 3, 4, 50))
	checkApplied(t, s, coldFor(20, -50), stocked([][]int{{100, 61}, {15, 120}}, 2, 2, 20, 3, 4, 50))
	checkApplied(t, s, coldFor(400), stocked([][]int{{80, 40}, {0, 100}}, 2, 2, 20, 3, 4, 50))
	checkApplied(t, s, coldFor(-400), stocked([][]int{{109, 74}, {44, 128}}, 2, 2, 20, 3, 4, 50))
	checkApplied(t, s, coldFor(repeated(0, 200)...), s)
	checkApplied(t, s, coldFor(repeated(-400, 200)...), stocked([][]int{{640, 635}, {632, 643}}, 2, 2, 20, 3, 4, 50))
	checkApplied(t, s, coldFor(repeated(400, 200)...), stocked(evenGrid(2, 2, 0), 2, 2, 20, 3, 4, 50))
	thick := stocked(evenGrid(9, 9, 999), 9, 9, 972, 0, 0, 0)
	checkApplied(t, thick, coldFor(-400), thick)
	thin := stocked([][]int{{0}}, 1, 1, 0, 0, 0, 0)
	checkApplied(t, thin, coldFor(400), thin)
	for _, temps := range badWeathers() {
		checkNotApplied(t, s, coldFor(temps...))
	}
	checkNotApplied(t, s, coldFor(-401))
	checkNotApplied(t, s, coldFor(401))
	checkNotApplied(t, s, coldFor(repeated(0, 201)...))
	checkNotApplied(t, thick, coldFor(append(repeated(-400, 199), 401)...))
}

func TestCutOfThicknesses(t *testing.T) {
	for _, c := range []struct{ thick, cakes int }{{50, 1}, {51, 1}, {99, 1}, {100, 2}, {149, 2}, {150, 3}, {949, 18}, {950, 19}, {999, 19}} {
		s := stocked([][]int{{60, c.thick}}, 2, 2, 20, 3, 4, 50)
		checkApplied(t, s, cutAt(1), stocked([][]int{{60, 0}}, 2, 2, 20+c.cakes, 3, 4, 50))
		alone := stocked([][]int{{c.thick}}, 2, 1, 5, 0, 0, 0)
		checkApplied(t, alone, cutAt(0), stocked([][]int{{0}}, 2, 1, 5+c.cakes, 0, 0, 0))
	}
	for _, thick := range []int{0, 1, 15, 48, 49} {
		checkNotApplied(t, stocked([][]int{{60, thick}}, 2, 2, 20, 3, 4, 50), cutAt(1))
		checkNotApplied(t, stocked([][]int{{thick}}, 2, 2, 20, 3, 4, 50), cutAt(0))
		checkNotApplied(t, stocked([][]int{{thick, 60}}, 2, 2, 20, 3, 4, 50), cutAt(0))
		// The workers do not get to other cells when the shore is too thin, or what is between.
		checkNotApplied(t, stocked([][]int{{thick, 60}}, 2, 2, 20, 3, 4, 50), cutAt(1))
		checkNotApplied(t, stocked([][]int{{60, thick, 60}}, 2, 2, 20, 3, 4, 50), cutAt(2))
	}
}

func TestCutOfCells(t *testing.T) {
	s := busySeason()
	checkApplied(t, s, cutAt(0), stocked([][]int{{0, 60}, {0, 120}}, 2, 2, 22, 3, 4, 50))
	checkApplied(t, s, cutAt(1), stocked([][]int{{100, 0}, {0, 120}}, 2, 2, 21, 3, 4, 50))
	checkApplied(t, s, cutAt(3), stocked([][]int{{100, 60}, {0, 0}}, 2, 2, 22, 3, 4, 50))
	for _, cell := range append(badCells(s.Pond), 2) {
		checkNotApplied(t, s, cutAt(cell))
	}
	// After the cell 1 the cell 3 is in another field, and after the shore all are.
	split := stocked([][]int{{100, 0}, {0, 120}}, 2, 2, 21, 3, 4, 50)
	checkNotApplied(t, split, cutAt(3))
	checkNotApplied(t, split, cutAt(1))
	checkApplied(t, split, cutAt(0), stocked([][]int{{0, 0}, {0, 120}}, 2, 2, 23, 3, 4, 50))
	shore := stocked([][]int{{0, 60}, {0, 120}}, 2, 2, 22, 3, 4, 50)
	for cell := -1; cell <= 4; cell++ {
		checkNotApplied(t, shore, cutAt(cell))
	}
	// The numbers of the fields are not the cells.
	other := stocked([][]int{{60, 0, 60, 60}, {0, 0, 60, 0}}, 2, 2, 0, 0, 0, 0)
	for cell := 1; cell < 8; cell++ {
		checkNotApplied(t, other, cutAt(cell))
	}
	large := stocked(evenGrid(9, 9, 50), 9, 9, 0, 0, 0, 0)
	checkApplied(t, large, cutAt(80), stocked(openedAt(evenGrid(9, 9, 50), 80), 9, 9, 1, 0, 0, 0))
	for _, cell := range []int{-1, 81, 82, -81, greatestInt, leastInt} {
		checkNotApplied(t, large, cutAt(cell))
		checkNotApplied(t, stocked([][]int{{50}}, 1, 1, 0, 0, 0, 0), cutAt(cell))
	}
	checkNotApplied(t, stocked([][]int{{50}}, 1, 1, 0, 0, 0, 0), cutAt(1))
	// Narrows may be cut, too.
	ring := stocked(twoRingsPond(), 9, 9, 0, 0, 0, 0)
	checkApplied(t, ring, cutAt(12), stocked(openedAt(twoRingsPond(), 12), 9, 9, 1, 0, 0, 0))
}

func TestCutsThatFitAndCutsThatDoNot(t *testing.T) {
	p := [][]int{{150, 100}}
	open := [][]int{{0, 100}}
	// A house of one place holds 12 cakes, and one of 9 by 9 places 972.
	checkApplied(t, stocked(p, 1, 1, 9, 0, 0, 0), cutAt(0), stocked(open, 1, 1, 12, 0, 0, 0))
	checkNotApplied(t, stocked(p, 1, 1, 10, 0, 0, 0), cutAt(0))
	checkApplied(t, stocked(p, 1, 1, 10, 0, 0, 0), cutAt(1), stocked([][]int{{150, 0}}, 1, 1, 12, 0, 0, 0))
	checkNotApplied(t, stocked(p, 1, 1, 11, 0, 0, 0), cutAt(1))
	checkNotApplied(t, stocked(p, 1, 1, 12, 0, 0, 0), cutAt(1))
	checkApplied(t, stocked(p, 9, 9, 969, 1, 2, 3), cutAt(0), stocked(open, 9, 9, 972, 1, 2, 3))
	checkNotApplied(t, stocked(p, 9, 9, 970, 1, 2, 3), cutAt(0))
	checkApplied(t, stocked(p, 2, 3, 69, 0, 0, 0), cutAt(0), stocked(open, 2, 3, 72, 0, 0, 0))
	checkNotApplied(t, stocked(p, 3, 2, 70, 0, 0, 0), cutAt(0))
	checkNotApplied(t, stocked([][]int{{999}}, 1, 1, 0, 0, 0, 0), cutAt(0))
	checkNotApplied(t, stocked([][]int{{650}}, 1, 1, 0, 0, 0, 0), cutAt(0))
	checkApplied(t, stocked([][]int{{649}}, 1, 1, 0, 0, 0, 0), cutAt(0), stocked([][]int{{0}}, 1, 1, 12, 0, 0, 0))
	// Cut reaches MaxSold, and would be one more.
	checkApplied(t, stocked(p, 9, 9, 7, 99985, 5, 0), cutAt(0), stocked(open, 9, 9, 10, 99985, 5, 0))
	checkNotApplied(t, stocked(p, 9, 9, 7, 99986, 5, 0), cutAt(0))
	checkNotApplied(t, stocked(p, 9, 9, 7, 99985, 6, 0), cutAt(0))
	checkNotApplied(t, stocked(p, 9, 9, 8, 99985, 5, 0), cutAt(0))
	checkApplied(t, stocked(p, 9, 9, 0, 0, 99997, 0), cutAt(0), stocked(open, 9, 9, 3, 0, 99997, 0))
	checkNotApplied(t, stocked(p, 9, 9, 0, 100000, 0, 0), cutAt(1))
}

func TestSellEdges(t *testing.T) {
	s := busySeason()
	p := s.Pond
	checkApplied(t, s, soldFor(1, 0), stocked(p, 2, 2, 19, 4, 4, 50))
	checkApplied(t, s, soldFor(1, 1), stocked(p, 2, 2, 19, 4, 4, 51))
	checkApplied(t, s, soldFor(19, 7), stocked(p, 2, 2, 1, 22, 4, 183))
	checkApplied(t, s, soldFor(20, 1000), stocked(p, 2, 2, 0, 23, 4, 20050))
	checkApplied(t, s, soldFor(20, 0), stocked(p, 2, 2, 0, 23, 4, 50))
	for _, count := range []int{0, -1, -20, 21, 22, greatestInt, leastInt} {
		checkNotApplied(t, s, soldFor(count, 0))
		checkNotApplied(t, s, soldFor(count, 5))
	}
	for _, price := range []int{-1, -5, 1001, 2000, greatestInt, leastInt} {
		checkNotApplied(t, s, soldFor(1, price))
		checkNotApplied(t, s, soldFor(20, price))
	}
	checkNotApplied(t, cornerSeason(), soldFor(1, 5))
	checkNotApplied(t, cornerSeason(), soldFor(0, 5))
	full := stocked(p, 9, 9, 972, 0, 0, 0)
	checkApplied(t, full, soldFor(972, 1000), stocked(p, 9, 9, 0, 972, 0, 972000))
	checkNotApplied(t, full, soldFor(973, 1000))
	// Sold reaches MaxSold, and Money MaxMoney.
	checkApplied(t, stocked(p, 9, 9, 10, 99990, 0, 0), soldFor(10, 3), stocked(p, 9, 9, 0, 100000, 0, 30))
	checkNotApplied(t, stocked(p, 9, 9, 10, 99990, 0, 0), soldFor(11, 3))
	checkApplied(t, stocked(p, 2, 2, 20, 3, 4, 8999960), soldFor(2, 20), stocked(p, 2, 2, 18, 5, 4, 9000000))
	checkNotApplied(t, stocked(p, 2, 2, 20, 3, 4, 8999961), soldFor(2, 20))
	checkApplied(t, stocked(p, 2, 2, 20, 3, 4, 8980000), soldFor(20, 1000), stocked(p, 2, 2, 0, 23, 4, 9000000))
	checkNotApplied(t, stocked(p, 2, 2, 20, 3, 4, 8980001), soldFor(20, 1000))
	checkApplied(t, stocked(p, 2, 2, 20, 3, 4, 9000000), soldFor(2, 0), stocked(p, 2, 2, 18, 5, 4, 9000000))
	checkNotApplied(t, stocked(p, 2, 2, 20, 3, 4, 9000000), soldFor(1, 1))
}

func TestMeltEdges(t *testing.T) {
	p := cornerPond()
	empty := stocked(p, 2, 2, 0, 3, 4, 50)
	checkApplied(t, empty, aDay(), empty)
	checkApplied(t, stocked(p, 2, 2, 1, 3, 4, 50), aDay(), stocked(p, 2, 2, 0, 3, 5, 50))
	// 4 tops and 40 sides: five cakes melt. In a full house there are 4 tops and 96 sides.
	checkApplied(t, busySeason(), aDay(), stocked(p, 2, 2, 15, 3, 9, 50))
	checkApplied(t, stocked(p, 2, 2, 48, 0, 0, 0), aDay(), stocked(p, 2, 2, 38, 0, 10, 0))
	checkApplied(t, stocked(p, 9, 9, 972, 0, 0, 0), aDay(), stocked(p, 9, 9, 920, 0, 52, 0))
	checkApplied(t, stocked(p, 1, 1, 12, 0, 0, 0), aDay(), stocked(p, 1, 1, 7, 0, 5, 0))
	// The sides of the house matter, and not only their product.
	checkApplied(t, stocked(p, 1, 4, 20, 0, 0, 0), aDay(), stocked(p, 1, 4, 14, 0, 6, 0))
	checkApplied(t, stocked(p, 4, 1, 20, 0, 0, 0), aDay(), stocked(p, 4, 1, 14, 0, 6, 0))
	checkApplied(t, stocked(p, 3, 1, 4, 0, 0, 0), aDay(), stocked(p, 3, 1, 2, 0, 2, 0))
	// Lost reaches MaxSold.
	checkApplied(t, stocked(p, 2, 2, 1, 0, 99999, 50), aDay(), stocked(p, 2, 2, 0, 0, 100000, 50))
	checkApplied(t, stocked(p, 2, 2, 20, 0, 99980, 50), aDay(), stocked(p, 2, 2, 15, 0, 99985, 50))
}

func TestMeltUntilTheHouseIsEmpty(t *testing.T) {
	s := busySeason()
	for _, stock := range []int{15, 11, 8, 6, 4, 2, 1, 0, 0, 0} {
		want := stocked(cornerPond(), 2, 2, stock, 3, 24-stock, 50)
		checkApplied(t, s, aDay(), want)
		s = want
	}
}

func TestEventsOfOtherKinds(t *testing.T) {
	for _, kind := range otherKinds() {
		checkNotApplied(t, busySeason(), impl.Event{Kind: kind})
		checkNotApplied(t, busySeason(), impl.Event{Kind: kind, Temps: []int{-50}, Cell: 1, Count: 1, Price: 1})
		checkFormat(t, impl.Event{Kind: kind}, "")
		checkFormat(t, impl.Event{Kind: kind, Temps: []int{-50}, Cell: 1, Count: 1, Price: 1}, "")
	}
}

func TestWhatAnEventDoesNotNameIsNotLookedAt(t *testing.T) {
	for _, s := range []impl.Season{busySeason(), cornerSeason(), stocked(cornerPond(), 1, 1, 12, 0, 0, 0)} {
		for _, e := range append(bookKinds(), cutAt(2), soldFor(0, 5), soldFor(1, 1001), coldFor(401)) {
			want, fine := impl.ApplyEvent(s, e)
			for _, number := range []int{0, 1, -1, 1000000, greatestInt, leastInt} {
				for _, temps := range [][]int{nil, {-50}, {401}, {greatestInt, leastInt}, repeated(-50, 201)} {
					got, ok := impl.ApplyEvent(s, withOthers(e, number, temps))
					if ok != fine || !sameSeason(got, want) {
						t.Fatalf("ApplyEvent(%v, %v) = %v, %v, not %v, %v", s, withOthers(e, number, temps), got, ok, want, fine)
					}
				}
			}
		}
	}
}

func TestFunctionsOfOtherSeasons(t *testing.T) {
	whole, events := story()
	for _, s := range badSeasons() {
		for _, e := range append(bookKinds(), coldFor(), impl.Event{Kind: 4}, cutAt(-1)) {
			checkNotApplied(t, s, e)
		}
		checkNotRun(t, s, nil)
		checkNotRun(t, s, events)
		checkNext(t, s, -1)
		checkCutAll(t, s, impl.Season{})
		for n := 0; n <= 2; n++ {
			checkDesk(t, s, whole, linesToAsk()[:n], "")
			checkDesk(t, s, "cut 2\n", linesToAsk()[:n], "")
		}
	}
}

func checkRun(t *testing.T, s impl.Season, list []impl.Event, want impl.Season) {
	if got, ok := impl.RunBook(s, list); !ok || !sameSeason(got, want) {
		t.Errorf("RunBook(%v, %v) = %v, %v, not %v", s, list, got, ok, want)
	}
}

func checkNotRun(t *testing.T, s impl.Season, list []impl.Event) {
	if got, ok := impl.RunBook(s, list); ok || !sameSeason(got, impl.Season{}) {
		t.Errorf("RunBook(%v, %v) = %v, %v", s, list, got, ok)
	}
}

func TestRunBookEdges(t *testing.T) {
	s := cornerSeason()
	checkRun(t, s, nil, s)
	checkRun(t, s, []impl.Event{}, s)
	checkRun(t, busySeason(), nil, busySeason())
	_, events := story()
	checkRun(t, s, events[:1], stocked([][]int{{100, 60}, {0, 0}}, 2, 2, 2, 0, 0, 0))
	checkRun(t, s, events[:2], stocked([][]int{{100, 0}, {0, 0}}, 2, 2, 3, 0, 0, 0))
	checkRun(t, s, events[:3], stocked([][]int{{100, 0}, {0, 0}}, 2, 2, 1, 2, 0, 40))
	checkRun(t, s, events[:4], stocked([][]int{{100, 0}, {0, 0}}, 2, 2, 0, 2, 1, 40))
	checkRun(t, s, events, stocked([][]int{{101, 15}, {15, 15}}, 2, 2, 0, 2, 1, 40))
	checkRun(t, s, []impl.Event{cutAt(0)}, stocked([][]int{{0, 60}, {0, 120}}, 2, 2, 2, 0, 0, 0))
	// As many events as there may be, and one more.
	checkRun(t, busySeason(), repeatedEvent(coldFor(), 60), busySeason())
	checkNotRun(t, busySeason(), repeatedEvent(coldFor(), 61))
	checkRun(t, stocked(cornerPond(), 9, 9, 60, 0, 0, 0), repeatedEvent(soldFor(1, 9), 60), stocked(cornerPond(), 9, 9, 0, 60, 0, 540))
	checkNotRun(t, stocked(cornerPond(), 9, 9, 61, 0, 0, 0), repeatedEvent(soldFor(1, 9), 61))
	// An event at the beginning, in the middle or at the end is not possible.
	for i := range events {
		for _, e := range []impl.Event{cutAt(2), cutAt(-1), soldFor(100, 1), coldFor(401), {Kind: 4}} {
			list := append(copyEvents(events[:i]), e)
			checkNotRun(t, s, list)
			checkNotRun(t, s, append(list, events[i:]...))
		}
	}
	checkNotRun(t, s, append(copyEvents(events), cutAt(3)))
	// What was cut stays cut, and what grows in the water can be cut again.
	checkNotRun(t, s, []impl.Event{cutAt(0), cutAt(0)})
	checkNotRun(t, s, []impl.Event{cutAt(0), cutAt(1)})
	frost := coldFor(repeated(-400, 2)...)
	checkRun(t, s, []impl.Event{cutAt(0), frost, cutAt(0)}, stocked([][]int{{0, 87}, {63, 135}}, 2, 2, 3, 0, 0, 0))
}

func TestRunBookAtTheLimits(t *testing.T) {
	p := [][]int{{100, 50}}
	s := stocked(p, 1, 1, 10, 0, 0, 8999990)
	checkRun(t, s, []impl.Event{cutAt(0)}, stocked([][]int{{0, 50}}, 1, 1, 12, 0, 0, 8999990))
	checkNotRun(t, s, []impl.Event{cutAt(1), cutAt(0)})
	checkRun(t, s, []impl.Event{cutAt(1), soldFor(1, 10), cutAt(0)}, stocked([][]int{{0, 0}}, 1, 1, 12, 1, 0, 9000000))
	checkNotRun(t, s, []impl.Event{cutAt(1), soldFor(1, 11), cutAt(0)})
	checkNotRun(t, s, []impl.Event{soldFor(1, 10), soldFor(1, 0), soldFor(1, 1)})
}

func checkNext(t *testing.T, s impl.Season, want int) {
	if got := impl.NextCell(s); got != want {
		t.Errorf("NextCell(%v) = %d, not %d", s, got, want)
	}
}

// checkNextOn checks the next cell of a season that begins with a pond.
func checkNextOn(t *testing.T, p [][]int, want int) {
	checkNext(t, stocked(p, 3, 3, 0, 0, 0, 0), want)
}

func TestNextCellEdges(t *testing.T) {
	checkNextOn(t, [][]int{{0}}, -1)
	checkNextOn(t, [][]int{{49}}, -1)
	checkNextOn(t, [][]int{{50}}, 0)
	checkNextOn(t, [][]int{{999}}, 0)
	checkNextOn(t, [][]int{{49, 999}, {999, 999}}, -1)
	checkNextOn(t, [][]int{{0, 60, 60}}, -1)
	// The shore alone, with other fields or thin ice.
	checkNextOn(t, [][]int{{50, 49}, {0, 999}}, 0)
	checkNextOn(t, [][]int{{60, 0, 999}}, 0)
	checkNextOn(t, [][]int{{60}, {49}, {999}}, 0)
	// The shore has the thickest ice, but stays.
	checkNextOn(t, [][]int{{999, 50}}, 1)
	checkNextOn(t, [][]int{{999}, {50}}, 1)
	checkNextOn(t, [][]int{{999, 60}, {70, 50}}, 2)
	// Of equal ones the first.
	checkNextOn(t, [][]int{{50, 50}, {50, 50}}, 1)
	checkNextOn(t, [][]int{{50, 60}, {70, 70}}, 2)
	checkNextOn(t, [][]int{{50, 70}, {60, 70}}, 1)
	checkNextOn(t, [][]int{{50, 70}, {71, 70}}, 2)
	checkNextOn(t, [][]int{{50, 70}, {70, 71}}, 3)
	checkNextOn(t, evenGrid(9, 9, 999), 1)
	checkNextOn(t, evenGrid(9, 9, 50), 1)
	checkNextOn(t, evenGrid(9, 9, 49), -1)
	// The thickest cells hold the field together.
	checkNextOn(t, [][]int{{60, 999, 50}}, 2)
	checkNextOn(t, [][]int{{60}, {999}, {50}}, 2)
	checkNextOn(t, [][]int{{60, 999, 999, 999, 50}}, 4)
	checkNextOn(t, [][]int{{60, 70, 999}, {0, 50, 0}}, 2)
	checkNextOn(t, [][]int{{60, 70, 55}, {0, 56, 0}}, 4)
	checkNextOn(t, onePond(), 8)
	checkNextOn(t, [][]int{{60, 60, 60}, {60, 0, 60}, {60, 60, 61}}, 8)
	checkNextOn(t, ringPond(), 1)
	checkNextOn(t, twoRingsPond(), 1)
	checkNextOn(t, cornerPond(), 3)
	// A shore that is a narrow itself, between two parts.
	checkNextOn(t, [][]int{{60, 70}, {80, 0}}, 2)
	checkNextOn(t, [][]int{{60, 80}, {70, 0}}, 1)
	// The thickest ice is in another field.
	checkNextOn(t, [][]int{{60, 70, 0, 999}, {50, 50, 0, 999}}, 1)
}

func TestNextCellLooksAtThePondAlone(t *testing.T) {
	for _, s := range []impl.Season{
		busySeason(), stocked(cornerPond(), 1, 1, 12, 0, 0, 0), stocked(cornerPond(), 9, 9, 0, 0, impl.MaxSold, impl.MaxMoney),
	} {
		checkNext(t, s, 3)
	}
}

// snake returns a pond of which the ice is one long way from the shore, so that all cells but the two ends are narrows.
func snake() [][]int {
	return [][]int{{50, 999, 60}, {0, 0, 70}, {55, 80, 90}}
}

func TestFieldsOfNarrows(t *testing.T) {
	s := stocked(snake(), 9, 9, 0, 0, 0, 0)
	checkNext(t, s, 6)
	checkCutAll(t, s, stocked(evenGrid(3, 3, 0), 9, 9, 25, 0, 0, 0), 6, 7, 8, 5, 2, 1, 0)
	if got := impl.NarrowsOf(snake(), impl.WorkLoad); !sameInts(got, []int{1, 2, 5, 7, 8}) {
		t.Errorf("the narrows are %v", got)
	}
	long := stocked([][]int{spread(9, 2, 50, 200)}, 9, 9, 0, 0, 0, 0)
	checkCutAll(t, long, stocked([][]int{repeated(0, 9)}, 9, 9, cakesOfField(long.Pond), 0, 0, 0), 8, 7, 6, 5, 4, 3, 2, 1, 0)
}

func checkCutAll(t *testing.T, s impl.Season, want impl.Season, cells ...int) {
	if got, order := impl.CutAll(s); !sameSeason(got, want) || !sameInts(order, cells) {
		t.Errorf("CutAll(%v) = %v, %v, not %v, %v", s, got, order, want, cells)
	}
}

func TestCutAllEdges(t *testing.T) {
	water := [][]int{{0}}
	checkCutAll(t, stocked(water, 1, 1, 0, 0, 0, 0), stocked(water, 1, 1, 0, 0, 0, 0))
	checkCutAll(t, stocked([][]int{{49}}, 1, 1, 3, 1, 2, 9), stocked([][]int{{49}}, 1, 1, 3, 1, 2, 9))
	checkCutAll(t, stocked([][]int{{50}}, 1, 1, 3, 1, 2, 9), stocked(water, 1, 1, 4, 1, 2, 9), 0)
	checkCutAll(t, cornerSeason(), stocked(evenGrid(2, 2, 0), 2, 2, 5, 0, 0, 0), 3, 1, 0)
	checkCutAll(t, busySeason(), stocked(evenGrid(2, 2, 0), 2, 2, 25, 3, 4, 50), 3, 1, 0)
	// Other fields stay, and the whole pond where the shore does not bear the load.
	checkCutAll(t, stocked(onePond(), 9, 9, 0, 0, 0, 0), stocked([][]int{{0, 0, 30}, {0, 0, 0}, {60, 0, 0}}, 9, 9, 5, 0, 0, 0), 8, 5, 4, 1, 0)
	checkCutAll(t, stocked([][]int{{49, 99}}, 1, 1, 0, 0, 0, 0), stocked([][]int{{49, 99}}, 1, 1, 0, 0, 0, 0))
	checkCutAll(t, stocked(evenGrid(2, 2, 50), 1, 1, 0, 0, 0, 0), stocked(evenGrid(2, 2, 0), 1, 1, 4, 0, 0, 0), 1, 3, 2, 0)
	large, cells := impl.CutAll(stocked(evenGrid(9, 9, 619), 9, 9, 0, 0, 0, 0))
	if large.Stock != 972 || large.Cut != 972 || !sameInts(ascending(cells), countTo(81)) || lastOf(cells) != 0 {
		t.Errorf("CutAll of 81 cells of 12 cakes = %v, %v", large, cells)
	}
}

func TestCutAllOfHousesThatFillUp(t *testing.T) {
	thick := [][]int{{999, 60}}
	checkCutAll(t, stocked(thick, 1, 1, 0, 0, 0, 0), stocked([][]int{{999, 0}}, 1, 1, 1, 0, 0, 0), 1)
	checkCutAll(t, stocked(thick, 1, 1, 12, 0, 0, 0), stocked(thick, 1, 1, 12, 0, 0, 0))
	checkCutAll(t, stocked(thick, 1, 2, 4, 0, 0, 0), stocked([][]int{{0, 0}}, 1, 2, 24, 0, 0, 0), 1, 0)
	checkCutAll(t, stocked(thick, 1, 2, 5, 0, 0, 0), stocked([][]int{{999, 0}}, 1, 2, 6, 0, 0, 0), 1)
	// The cell that is next does not fit, so that others that would are not cut.
	checkCutAll(t, stocked(cornerPond(), 1, 1, 11, 0, 0, 0), stocked(cornerPond(), 1, 1, 11, 0, 0, 0))
	checkCutAll(t, stocked(cornerPond(), 1, 1, 10, 0, 0, 0), stocked([][]int{{100, 60}, {0, 0}}, 1, 1, 12, 0, 0, 0), 3)
	checkCutAll(t, stocked(cornerPond(), 1, 1, 9, 0, 0, 0), stocked([][]int{{100, 0}, {0, 0}}, 1, 1, 12, 0, 0, 0), 3, 1)
	checkCutAll(t, stocked(cornerPond(), 1, 1, 8, 0, 0, 0), stocked([][]int{{100, 0}, {0, 0}}, 1, 1, 11, 0, 0, 0), 3, 1)
	checkCutAll(t, stocked(cornerPond(), 1, 1, 7, 0, 0, 0), stocked(evenGrid(2, 2, 0), 1, 1, 12, 0, 0, 0), 3, 1, 0)
	// Cut reaches MaxSold, and would be one more.
	checkCutAll(t, stocked(cornerPond(), 9, 9, 0, 99995, 0, 0), stocked(evenGrid(2, 2, 0), 9, 9, 5, 99995, 0, 0), 3, 1, 0)
	checkCutAll(t, stocked(cornerPond(), 9, 9, 0, 99996, 0, 0), stocked([][]int{{100, 0}, {0, 0}}, 9, 9, 3, 99996, 0, 0), 3, 1)
	checkCutAll(t, stocked(cornerPond(), 9, 9, 0, 99999, 0, 0), stocked(cornerPond(), 9, 9, 0, 99999, 0, 0))
	full := stocked(evenGrid(9, 9, 999), 9, 9, 954, 0, 0, 0)
	checkCutAll(t, full, full)
	full.Stock = 953
	full.Cut = 953
	checkCutAll(t, full, stocked(openedAt(full.Pond, 1), 9, 9, 972, 0, 0, 0), 1)
}

func checkFormat(t *testing.T, e impl.Event, want string) {
	if got := impl.FormatEvent(e); got != want {
		t.Errorf("FormatEvent(%v) = %q, not %q", e, got, want)
	}
}

func TestFormatEventEdges(t *testing.T) {
	checkFormat(t, impl.Event{}, "cold")
	checkFormat(t, coldFor([]int{}...), "cold")
	checkFormat(t, coldFor(0), "cold 0")
	checkFormat(t, coldFor(-1, 1), "cold -1 1")
	checkFormat(t, coldFor(999999, -999999, 10, -10, 0, -0), "cold 999999 -999999 10 -10 0 0")
	checkFormat(t, coldFor(repeated(-400, 201)...), "cold"+repeatedText(" -400", 201))
	checkFormat(t, coldFor(repeated(7, 5000)...), "cold"+repeatedText(" 7", 5000))
	checkFormat(t, cutAt(0), "cut 0")
	checkFormat(t, cutAt(9), "cut 9")
	checkFormat(t, cutAt(10), "cut 10")
	checkFormat(t, cutAt(999999), "cut 999999")
	checkFormat(t, soldFor(0, 0), "sell 0 0")
	checkFormat(t, soldFor(2, 20), "sell 2 20")
	checkFormat(t, soldFor(20, 2), "sell 20 2")
	checkFormat(t, soldFor(999999, 0), "sell 999999 0")
	checkFormat(t, soldFor(0, 999999), "sell 0 999999")
	checkFormat(t, soldFor(100000, 100001), "sell 100000 100001")
	checkFormat(t, aDay(), "melt")
}

func TestFormatEventOfOtherNumbers(t *testing.T) {
	for kind := impl.EvCold; kind <= impl.EvMelt; kind++ {
		for _, number := range []int{-1, -999999, 1000000, greatestInt, leastInt} {
			checkFormat(t, impl.Event{Kind: kind, Cell: number}, "")
			checkFormat(t, impl.Event{Kind: kind, Count: number}, "")
			checkFormat(t, impl.Event{Kind: kind, Price: number}, "")
		}
		for _, temp := range []int{1000000, -1000000, greatestInt, leastInt} {
			checkFormat(t, impl.Event{Kind: kind, Temps: []int{temp}}, "")
			checkFormat(t, impl.Event{Kind: kind, Temps: []int{temp, 5, 6}}, "")
			checkFormat(t, impl.Event{Kind: kind, Temps: []int{5, 6, temp}}, "")
		}
	}
	// What the kind does not name may be as great as that, and is not written.
	greatest := impl.Event{Temps: []int{999999, -999999}, Cell: 999999, Count: 999999, Price: 999999}
	for i, want := range []string{"cold 999999 -999999", "cut 999999", "sell 999999 999999", "melt"} {
		greatest.Kind = i
		checkFormat(t, greatest, want)
	}
	checkFormat(t, impl.Event{Kind: impl.EvCold, Temps: []int{7}, Cell: 1, Count: 2, Price: 3}, "cold 7")
	checkFormat(t, impl.Event{Kind: impl.EvCut, Temps: []int{7}, Cell: 1, Count: 2, Price: 3}, "cut 1")
	checkFormat(t, impl.Event{Kind: impl.EvSell, Temps: []int{7}, Cell: 1, Count: 2, Price: 3}, "sell 2 3")
	checkFormat(t, impl.Event{Kind: impl.EvMelt, Temps: []int{7}, Cell: 1, Count: 2, Price: 3}, "melt")
}

func checkParsed(t *testing.T, text string, want impl.Event) {
	if got, ok := impl.ParseEvent(text); !ok || !sameEvent(got, want) {
		t.Errorf("ParseEvent(%q) = %v, %v, not %v", text, got, ok, want)
	}
}

func TestParseEventEdges(t *testing.T) {
	checkParsed(t, "cold", impl.Event{})
	checkParsed(t, "cold 0", coldFor(0))
	checkParsed(t, "cold -1 1 0", coldFor(-1, 1, 0))
	checkParsed(t, "cold 999999 -999999 100", coldFor(999999, -999999, 100))
	checkParsed(t, "cold"+repeatedText(" -400", 201), coldFor(repeated(-400, 201)...))
	checkParsed(t, "cut 0", cutAt(0))
	checkParsed(t, "cut 80", cutAt(80))
	checkParsed(t, "cut 999999", cutAt(999999))
	checkParsed(t, "sell 0 0", soldFor(0, 0))
	checkParsed(t, "sell 2 20", soldFor(2, 20))
	checkParsed(t, "sell 999999 100000", soldFor(999999, 100000))
	checkParsed(t, "melt", aDay())
	for _, text := range otherTexts() {
		if got, ok := impl.ParseEvent(text); ok || !sameEvent(got, impl.Event{}) {
			t.Errorf("ParseEvent(%q) = %v, %v", text, got, ok)
		}
	}
}

func TestParseEventOfLongTexts(t *testing.T) {
	for _, text := range []string{
		"cut " + repeatedText("9", 5000), "cut 1" + repeatedText("0", 5000), "cut " + repeatedText("0", 5000), "sell" + repeatedText(" 1", 5000),
		repeatedText(" ", 5000), repeatedText("melt", 1000), "cold" + repeatedText(" 5", 5000) + " ", "cold" + repeatedText(" -", 5000), "melt" + repeatedText(" ", 5000),
	} {
		if got, ok := impl.ParseEvent(text); ok || !sameEvent(got, impl.Event{}) {
			t.Errorf("ParseEvent(%q) = %v, %v", text[:20], got, ok)
		}
	}
	checkParsed(t, "cold"+repeatedText(" 5", 5000), coldFor(repeated(5, 5000)...))
}

func checkBook(t *testing.T, list []impl.Event, want string) {
	if got := impl.FormatBook(list); got != want {
		t.Errorf("FormatBook(%v) = %q, not %q", list, got, want)
	}
}

func TestFormatBookEdges(t *testing.T) {
	text, events := story()
	checkBook(t, nil, "")
	checkBook(t, []impl.Event{}, "")
	checkBook(t, []impl.Event{{}}, "cold\n")
	checkBook(t, events, text)
	checkBook(t, repeatedEvent(aDay(), 60), repeatedText("melt\n", 60))
	checkBook(t, repeatedEvent(aDay(), 61), "")
	// One event without a text, wherever it is. Those that are not possible have one.
	for i := range events {
		for _, e := range []impl.Event{cutAt(-1), soldFor(1000000, 1), coldFor(1000000), {Kind: 4}, {Kind: impl.EvMelt, Price: -1}} {
			list := copyEvents(events)
			list[i] = e
			checkBook(t, list, "")
		}
	}
	checkBook(t, []impl.Event{cutAt(999999), coldFor(401), soldFor(0, 1001)}, "cut 999999\ncold 401\nsell 0 1001\n")
}

func checkRecovered(t *testing.T, text string, want ...impl.Event) {
	if got := impl.RecoverBook(text); !sameEvents(got, want) {
		t.Errorf("RecoverBook(%q) = %v, not %v", text, got, want)
	}
}

func TestRecoverBookEdges(t *testing.T) {
	text, events := story()
	checkRecovered(t, "")
	checkRecovered(t, "\n")
	checkRecovered(t, "melt")
	checkRecovered(t, "melt\n", aDay())
	checkRecovered(t, "cold\n", coldFor())
	checkRecovered(t, text, events...)
	// Without the last newline, with an empty line, and with a line that is no event.
	checkRecovered(t, text[:len(text)-1], events[:4]...)
	checkRecovered(t, "\n"+text)
	checkRecovered(t, "melt\n\nmelt\n", aDay())
	checkRecovered(t, text+"\n"+text, events...)
	checkRecovered(t, "melt\nmelts\nmelt\n", aDay())
	checkRecovered(t, "what\n"+text)
	checkRecovered(t, text+"what\n"+text, events...)
	checkRecovered(t, text+"what", events...)
	checkRecovered(t, "melt\r\nmelt\r\n")
	checkRecovered(t, "cut 3\ncut 01\ncut 1\n", cutAt(3))
	checkRecovered(t, "cut 3\n cut 1\n", cutAt(3))
	checkRecovered(t, "cut 3\ncut 1 \n", cutAt(3))
	// Events that are not possible are read, too.
	checkRecovered(t, "cut 999999\ncold 401\nsell 0 1001\n", cutAt(999999), coldFor(401), soldFor(0, 1001))
	// As many lines as there may be, and one more, which is not even looked at.
	checkRecovered(t, repeatedText("melt\n", 59), repeatedEvent(aDay(), 59)...)
	checkRecovered(t, repeatedText("melt\n", 60), repeatedEvent(aDay(), 60)...)
	checkRecovered(t, repeatedText("melt\n", 61), repeatedEvent(aDay(), 60)...)
	checkRecovered(t, repeatedText("melt\n", 60)+"what\n", repeatedEvent(aDay(), 60)...)
	checkRecovered(t, repeatedText("melt\n", 60)+"\n", repeatedEvent(aDay(), 60)...)
	checkRecovered(t, repeatedText("melt\n", 59)+"cut 7\ncut 8\n", append(repeatedEvent(aDay(), 59), cutAt(7))...)
	checkRecovered(t, repeatedText("melt\n", 1000), repeatedEvent(aDay(), 60)...)
	checkRecovered(t, "cut 3\n"+repeatedText("\n", 100), cutAt(3))
}

func TestRecoverBookTornAtEachByte(t *testing.T) {
	text, events := story()
	for end := 0; end <= len(text); end++ {
		checkRecovered(t, text[:end], events[:countNewlines(text[:end])]...)
	}
}

func checkDesk(t *testing.T, s impl.Season, book string, lines []string, want string) {
	if got := impl.RunDesk(s, book, lines); got != want {
		t.Errorf("RunDesk(%v, %q, %q) = %q, not %q", s, book, lines, got, want)
	}
}

func TestRunDeskEdges(t *testing.T) {
	text, _ := story()
	s := cornerSeason()
	asked := []string{"stock", "sold", "lost", "cut", "money", "next"}
	checkDesk(t, s, text, nil, "")
	checkDesk(t, s, text, []string{}, "")
	checkDesk(t, s, "", asked, "0\n0\n0\n0\n0\n3\n")
	checkDesk(t, s, text, asked, "0\n2\n1\n3\n40\n0\n")
	checkDesk(t, busySeason(), "", asked, "20\n3\n4\n27\n50\n3\n")
	checkDesk(t, busySeason(), "melt\nsell 5 100\n", asked, "10\n8\n9\n27\n550\n3\n")
	checkDesk(t, stocked(evenGrid(9, 9, 0), 9, 9, 972, 90000, 9028, 9000000), "", asked, "972\n90000\n9028\n100000\n9000000\nnone\n")
	checkDesk(t, stocked(evenGrid(9, 9, 0), 9, 9, 0, 0, 100000, 999999), "", asked, "0\n0\n100000\n100000\n999999\nnone\n")
	checkDesk(t, s, "", []string{"", "help", "what", "none", "closed", "stock ", " stock", "STOCK", "Next", "stock\n", "nex", "nextt", "\x00", "3"}, repeatedText("what\n", 14))
	checkDesk(t, s, text, []string{"money", "", "money", "", "sold"}, "40\nwhat\n40\nwhat\n2\n")
	// A line does not change the season.
	checkDesk(t, s, "", []string{"next", "cut 3", "next", "melt", "cut"}, "3\nwhat\n3\nwhat\n0\n")
	// Nothing is left to cut, or only the shore.
	checkDesk(t, s, "cut 3\ncut 1\ncut 0\n", []string{"next", "stock"}, "none\n5\n")
	checkDesk(t, s, "cut 3\ncut 1\n", []string{"next", "stock"}, "0\n3\n")
	checkDesk(t, stocked([][]int{{49, 999}}, 1, 1, 7, 0, 0, 0), "", []string{"next", "stock"}, "none\n7\n")
	wide := evenGrid(9, 9, 50)
	wide[8][8] = 51
	checkDesk(t, stocked(wide, 1, 1, 7, 0, 0, 0), "", []string{"next", "stock"}, "80\n7\n")
	// As many lines as there may be, and one more.
	checkDesk(t, s, text, make([]string, 20), repeatedText("what\n", 20))
	checkDesk(t, s, text, make([]string, 21), "")
	checkDesk(t, s, "cut 2\n", make([]string, 21), "")
}

func TestRunDeskThatIsClosed(t *testing.T) {
	text, _ := story()
	s := cornerSeason()
	asked := []string{"stock", "", "next", "help", "closed"}
	for _, book := range []string{
		"cut 2\n", "cut 3\ncut 3\n", "sell 1 5\n", "cold 401\n", text + "cut 3\n", text + "sell 1 0\n", "melt\ncut 4\nmelt\n", "cut 3\nsell 3 5\nwhat\n",
		repeatedText("melt\n", 59) + "cut 2\n",
	} {
		checkDesk(t, s, book, asked, repeatedText("closed\n", 5))
		checkDesk(t, s, book, nil, "")
		checkDesk(t, s, book, make([]string, 20), repeatedText("closed\n", 20))
		checkDesk(t, s, book, make([]string, 21), "")
	}
	// An event that is torn, behind a line that is none, or one too many does not close the desk.
	checkDesk(t, s, "cut 3\ncut 3", []string{"stock", "next"}, "2\n1\n")
	checkDesk(t, s, "cut 3\ncut 03\ncut 3\n", []string{"stock", "next"}, "2\n1\n")
	checkDesk(t, s, "cut 3\n\ncut 3\n", []string{"stock", "next"}, "2\n1\n")
	checkDesk(t, s, repeatedText("melt\n", 60)+"cut 2\n", []string{"stock", "next"}, "0\n3\n")
	checkDesk(t, s, "cut 2", []string{"stock", "next"}, "0\n3\n")
}
