package tests

import (
	"testing"

	"loop.example/iceharvest/impl"
)

// callSeason calls every function of the layer that takes a season.
func callSeason(s impl.Season, list []impl.Event, lines []string) {
	impl.ValidSeason(s)
	impl.NewSeason(s.Pond, s.W, s.D)
	for _, e := range list {
		impl.ApplyEvent(s, e)
	}
	impl.RunBook(s, list)
	impl.NextCell(s)
	impl.CutAll(s)
	impl.RunDesk(s, "cut 0\nmelt\ncold -50\n", lines)
}

// callEvents calls every function of the layer that takes events alone.
func callEvents(list []impl.Event) {
	for _, e := range list {
		impl.FormatEvent(e)
	}
	impl.FormatBook(list)
}

func TestSeasonsAreNotWrittenInto(t *testing.T) {
	for _, s := range append(sampleSeasons(), badSeasons()...) {
		before := seasonCopy(s)
		callSeason(s, append(bookKinds(), coldFor(401), cutAt(-1)), linesToAsk())
		if !sameSeason(s, before) {
			t.Fatalf("%v became %v", before, s)
		}
	}
}

func TestEventsAreNotWrittenInto(t *testing.T) {
	for _, list := range append(sampleBooks(busySeason()), eventsToWrite(), eventsFor(busySeason())) {
		before := copyEvents(list)
		callSeason(busySeason(), list, nil)
		callEvents(list)
		if !sameEvents(list, before) {
			t.Fatalf("%v became %v", before, list)
		}
	}
}

func TestLinesAreNotWrittenInto(t *testing.T) {
	lines := linesToAsk()
	whole, _ := story()
	for n := range lines {
		impl.RunDesk(cornerSeason(), whole, lines[:n])
		impl.RunDesk(cornerSeason(), "cut 2\n", lines[:n])
	}
	for i, line := range linesToAsk() {
		if lines[i] != line {
			t.Errorf("line %d became %q", i, lines[i])
		}
	}
}

// eventsWithin returns a list of which the first three are events for a season, with others behind them.
func eventsWithin(temps []int) []impl.Event {
	return []impl.Event{cutAt(3), coldFor(temps...), soldFor(1, 5), cutAt(77), cutAt(78)}
}

func TestSeasonsWriteBehindNoArgument(t *testing.T) {
	whole := pondWithin()
	rows := cutRows(whole)
	temps := []int{-50, -50, 77, 78}
	events := eventsWithin(temps[:2])
	for n := 0; n <= 3; n++ {
		callSeason(stocked(rows[:2], 2, 2, 20, 3, 4, 50), events[:n], []string{"next", "stock"})
		callSeason(stocked(rows[:1], 2, 2, 20, 3, 4, 50), events[:n], nil)
		callEvents(events[:n])
	}
	if !sameGrid(whole, pondWithin()) || !sameGrid(rows, cutRows(pondWithin())) {
		t.Errorf("behind the pond there is %v, %v", whole, rows)
	}
	if !sameInts(temps, []int{-50, -50, 77, 78}) || !sameEvents(events, eventsWithin([]int{-50, -50})) {
		t.Errorf("behind the events there is %v, %v", temps, events)
	}
}

// seasonsFrom returns all seasons that the functions of the layer return of a season with a pond of four cells that bear the workers.
func seasonsFrom(s impl.Season) []impl.Season {
	list := []impl.Season{impl.NewSeason(s.Pond, s.W, s.D)}
	for _, e := range []impl.Event{coldFor(), coldFor(-50), coldFor(20), cutAt(0), cutAt(3), soldFor(1, 5), aDay()} {
		after, _ := impl.ApplyEvent(s, e)
		list = append(list, after)
	}
	for _, book := range [][]impl.Event{nil, {aDay()}, {cutAt(3), cutAt(1)}, {soldFor(1, 0), coldFor(-5), aDay()}} {
		after, _ := impl.RunBook(s, book)
		list = append(list, after)
	}
	after, _ := impl.CutAll(s)
	return append(list, after)
}

func TestPondsOfSeasonsAreNewMemory(t *testing.T) {
	whole := pondWithin()
	rows := cutRows(whole)
	for _, stock := range []int{1, 20, 47, 48} {
		for i, got := range seasonsFrom(stocked(rows[:2], 2, 2, stock, 3, 4, 50)) {
			checkRowsAreApart(t, got.Pond)
			longer := append(got.Pond, nil)
			for y := range got.Pond {
				longer[y] = nil
				got.Pond[y] = nil
			}
			if !sameGrid(whole, pondWithin()) || !sameGrid(rows, cutRows(pondWithin())) {
				t.Fatalf("season %d shares memory with the argument: %v, %v", i, whole, rows)
			}
		}
	}
}

func TestSeasonsOfOneSeasonShareNoMemory(t *testing.T) {
	s := stocked(cutRows(pondWithin())[:2], 2, 2, 20, 3, 4, 50)
	seasons := seasonsFrom(s)
	again := seasonsFrom(s)
	for i := range seasons {
		for y := range seasons[i].Pond {
			overwrite(seasons[i].Pond[y])
		}
		for j := i + 1; j < len(seasons); j++ {
			if !sameSeason(seasons[j], again[j]) {
				t.Fatalf("season %d shares memory with season %d: %v", j, i, seasons[j])
			}
		}
	}
	for i, got := range seasonsFrom(s) {
		if !sameSeason(got, again[i]) {
			t.Errorf("season %d is kept: %v", i, got)
		}
	}
}

func TestSeasonsThatStayAreNewMemory(t *testing.T) {
	for _, p := range [][][]int{{{0}}, {{49, 60}}, evenGrid(2, 2, 0)} {
		s := stocked(gridCopy(p), 2, 2, 0, 0, 0, 0)
		all, cells := impl.CutAll(s)
		after, ok := impl.RunBook(s, nil)
		melted, fine := impl.ApplyEvent(s, aDay())
		if len(cells) != 0 || !ok || !fine {
			t.Fatalf("CutAll, RunBook or ApplyEvent of %v", s)
		}
		for _, got := range []impl.Season{all, after, melted} {
			checkSeason(t, got, s)
			overwrite(got.Pond[0])
			if !sameGrid(s.Pond, p) {
				t.Fatalf("a season shares memory with the argument: %v became %v", p, s.Pond)
			}
		}
	}
}

func TestPondOfASeasonWithOneRowTwice(t *testing.T) {
	row := []int{60, 50}
	s := stocked([][]int{row, row}, 2, 2, 20, 3, 4, 50)
	checkApplied(t, s, cutAt(0), stocked([][]int{{0, 50}, {60, 50}}, 2, 2, 21, 3, 4, 50))
	checkApplied(t, s, cutAt(3), stocked([][]int{{60, 50}, {60, 0}}, 2, 2, 21, 3, 4, 50))
	checkRun(t, s, []impl.Event{cutAt(3), cutAt(1)}, stocked([][]int{{60, 0}, {60, 0}}, 2, 2, 22, 3, 4, 50))
	checkCutAll(t, s, stocked(evenGrid(2, 2, 0), 2, 2, 24, 3, 4, 50), 2, 3, 1, 0)
	for _, got := range seasonsFrom(s) {
		checkRowsAreApart(t, got.Pond)
	}
	if !sameInts(row, []int{60, 50}) {
		t.Errorf("the row became %v", row)
	}
}

func TestCellsOfCutAllAreNewMemory(t *testing.T) {
	for _, s := range []impl.Season{cornerSeason(), busySeason(), stocked(snake(), 9, 9, 0, 0, 0, 0), stocked(cornerPond(), 1, 1, 12, 0, 0, 0)} {
		_, first := impl.CutAll(s)
		after, second := impl.CutAll(s)
		before := seasonCopy(after)
		checkOwnMemory(t, first, second)
		overwrite(second)
		checkSeason(t, after, before)
	}
}

func TestTempsThatAreReadAreNewMemory(t *testing.T) {
	for _, text := range []string{"cold", "cold 5", "cold -50 -50 20", "cold" + repeatedText(" 7", 200)} {
		first, _ := impl.ParseEvent(text)
		second, _ := impl.ParseEvent(text)
		checkOwnMemory(t, first.Temps, second.Temps)
		checkFormat(t, second, text)
	}
}

func TestEventsThatAreRecoveredAreNewMemory(t *testing.T) {
	text := "cold -50 20\ncut 3\ncold 1\ncold -50 20\ncold\nsell 1 2\n"
	want := []impl.Event{coldFor(-50, 20), cutAt(3), coldFor(1), coldFor(-50, 20), coldFor(), soldFor(1, 2)}
	for i := range want {
		first := impl.RecoverBook(text)
		second := impl.RecoverBook(text)
		overwrite(first[i].Temps)
		for j := range first {
			if j != i && !sameEvent(first[j], want[j]) {
				t.Fatalf("the events %d and %d share memory: %v", i, j, first)
			}
		}
		longer := append(first, aDay(), aDay())
		for j := range first {
			longer[j] = cutAt(-7)
			first[j] = cutAt(-7)
		}
		if !sameEvents(second, want) {
			t.Fatalf("two books share memory: %v", second)
		}
	}
	checkRecovered(t, text, want...)
}

func TestSeasonsKeepNoArgument(t *testing.T) {
	p := cornerPond()
	temps := []int{-50}
	s := stocked(p, 2, 2, 20, 3, 4, 50)
	begun := impl.NewSeason(p, 2, 2)
	grown, _ := impl.ApplyEvent(s, coldFor(temps...))
	sold, _ := impl.ApplyEvent(s, soldFor(1, 5))
	p[0][0] = 0
	temps[0] = 400
	checkSeason(t, begun, cornerSeason())
	checkSeason(t, grown, stocked([][]int{{101, 62}, {15, 121}}, 2, 2, 20, 3, 4, 50))
	checkSeason(t, sold, stocked(cornerPond(), 2, 2, 19, 4, 4, 55))
	checkNext(t, s, -1)
	checkNext(t, begun, 3)
	checkDesk(t, s, "", []string{"next"}, "none\n")
}

func TestBooksKeepNoEvents(t *testing.T) {
	text, events := story()
	checkBook(t, events, text)
	events[4].Temps[0] = 0
	events[0] = cutAt(0)
	checkBook(t, events, "cut 0\ncut 1\nsell 2 20\nmelt\ncold 0\n")
	first, _ := impl.ParseEvent("cold 5 6")
	first.Temps[0] = 7
	checkFormat(t, first, "cold 7 6")
	checkParsed(t, "cold 5 6", coldFor(5, 6))
}
