package tests

import (
	"testing"

	"loop.example/iceharvest/impl"
)

func TestPromise87SeasonsBalance(t *testing.T) {
	for _, s := range sampleSeasons() {
		if !impl.ValidSeason(s) || s.Stock+s.Sold+s.Lost != s.Cut {
			t.Fatalf("ValidSeason(%v) is false, or its cakes are not those that were cut", s)
		}
		for _, cut := range []int{s.Cut - 1, s.Cut + 1, -s.Cut - 1, s.Cut + 100, s.Stock + s.Sold + s.Lost + 1, impl.MaxSold + 1, greatestInt, leastInt} {
			other := s
			other.Cut = cut
			if impl.ValidSeason(other) {
				t.Fatalf("ValidSeason(%v) is true", other)
			}
		}
	}
}

func TestPromise88SeasonsBeginWithThePond(t *testing.T) {
	for _, p := range samplePonds() {
		for w := 1; w <= impl.MaxSide; w++ {
			for d := 1; d <= impl.MaxSide; d++ {
				s := impl.NewSeason(p, w, d)
				if !impl.ValidSeason(s) || !sameSeason(s, impl.Season{Pond: p, W: w, D: d}) {
					t.Fatalf("NewSeason(%v, %d, %d) = %v", p, w, d, s)
				}
			}
		}
	}
}

func TestPromise89CakesAreCutSoldOrLost(t *testing.T) {
	for _, s := range sampleSeasons() {
		for _, e := range eventsFor(s) {
			after, ok := impl.ApplyEvent(s, e)
			if ok && (!impl.ValidSeason(after) || after.Cut < s.Cut || after.Sold < s.Sold || after.Lost < s.Lost) {
				t.Fatalf("ApplyEvent(%v, %v) = %v", s, e, after)
			}
		}
	}
}

func TestPromise89EventsArePossibleOrNot(t *testing.T) {
	for _, s := range sampleSeasons() {
		count := 0
		for _, e := range eventsFor(s) {
			after, ok := impl.ApplyEvent(s, e)
			want, fine := appliedByHand(s, e)
			if ok != fine || !sameSeason(after, want) {
				t.Fatalf("ApplyEvent(%v, %v) = %v, %v, not %v, %v", s, e, after, ok, want, fine)
			}
			if ok {
				count++
			}
		}
		if count < 2 || count == len(eventsFor(s)) {
			t.Fatalf("%d events are possible in %v", count, s)
		}
	}
}

func TestPromise90CutCellsAreOpenWater(t *testing.T) {
	count := 0
	for _, s := range sampleSeasons() {
		for _, cell := range shoreCells(s.Pond) {
			after, ok := impl.ApplyEvent(s, cutAt(cell))
			if !ok {
				continue
			}
			count++
			cakes := numberAt(s.Pond, cell) / impl.CakeThick
			want := s
			want.Pond = impl.CutCell(s.Pond, cell)
			want.Stock += cakes
			want.Cut += cakes
			if cakes < 1 || !sameSeason(after, want) {
				t.Fatalf("ApplyEvent(%v, %v) = %v, not %v", s, cutAt(cell), after, want)
			}
		}
	}
	if count < 500 {
		t.Errorf("only %d cells can be cut", count)
	}
}

func TestPromise90ThePondGrows(t *testing.T) {
	for _, s := range sampleSeasons() {
		for _, temps := range sampleWeathers() {
			after, ok := impl.ApplyEvent(s, coldFor(temps...))
			want := s
			want.Pond = impl.GrowPond(s.Pond, temps)
			if !ok || !sameSeason(after, want) {
				t.Fatalf("ApplyEvent(%v, %v) = %v, %v", s, coldFor(temps...), after, ok)
			}
		}
	}
}

func TestPromise91TheHouseMeltsAsAHeapDoes(t *testing.T) {
	for w := 1; w <= impl.MaxSide; w++ {
		for d := 1; d <= impl.MaxSide; d++ {
			for stock := 0; stock <= w*d*impl.MaxHigh; stock += 1 + w*d/4 {
				checkMeltedHouse(t, stocked(cornerPond(), w, d, stock, 3, 4, 50))
			}
			checkMeltedHouse(t, stocked(cornerPond(), w, d, w*d*impl.MaxHigh, 3, 4, 50))
		}
	}
}

// checkMeltedHouse checks a day in the house of a season.
func checkMeltedHouse(t *testing.T, s impl.Season) {
	after, ok := impl.ApplyEvent(s, aDay())
	want := s
	want.Stock = impl.CakesIn(impl.MeltDay(impl.FillHouse(s.W, s.D, s.Stock)))
	want.Lost += s.Stock - want.Stock
	if !ok || !sameSeason(after, want) {
		t.Fatalf("ApplyEvent(%v, %v) = %v, %v", s, aDay(), after, ok)
	}
}

// booksToRun returns seasons, and for each of them books.
func booksToRun() ([]impl.Season, [][][]impl.Event) {
	seasons := sampleSeasons()
	books := make([][][]impl.Event, len(seasons))
	for i, s := range seasons {
		books[i] = sampleBooks(s)
	}
	for _, s := range []impl.Season{cornerSeason(), busySeason(), stocked(cornerPond(), 1, 1, 10, 0, 0, impl.MaxMoney-40)} {
		seasons = append(seasons, s)
		books = append(books, smallBooks())
	}
	return seasons, books
}

func TestPromise92BooksAreRunEventByEvent(t *testing.T) {
	seasons, books := booksToRun()
	count := 0
	for i, s := range seasons {
		for _, book := range books[i] {
			after, ok := impl.RunBook(s, book)
			want, fine := ranByHand(s, book)
			if ok != fine || !sameSeason(after, want) {
				t.Fatalf("RunBook(%v, %v) = %v, %v, not %v, %v", s, book, after, ok, want, fine)
			}
			if ok && len(book) > 0 {
				count++
				checkLastEvent(t, s, book, after)
			}
		}
	}
	if count < 1000 {
		t.Errorf("only %d books can be run", count)
	}
}

// checkLastEvent checks that the last event of a book leads to the season after the book.
func checkLastEvent(t *testing.T, s impl.Season, book []impl.Event, want impl.Season) {
	before, ok := impl.RunBook(s, book[:len(book)-1])
	after, fine := impl.ApplyEvent(before, book[len(book)-1])
	if !ok || !fine || !sameSeason(after, want) {
		t.Fatalf("RunBook(%v, %v) = %v, but the last event leads from %v to %v", s, book, want, before, after)
	}
}

func TestPromise93AllMoneyComesFromSales(t *testing.T) {
	seasons, books := booksToRun()
	count := 0
	for i, s := range seasons {
		for _, book := range books[i] {
			sold := 0
			money := 0
			for _, e := range book {
				if e.Kind == impl.EvSell {
					sold += e.Count
					money += e.Count * e.Price
				}
			}
			after, ok := impl.RunBook(s, book)
			if ok && (after.Money != s.Money+money || after.Sold != s.Sold+sold) {
				t.Fatalf("RunBook(%v, %v) = %v", s, book, after)
			}
			if ok && money > 0 {
				count++
			}
		}
	}
	if count < 100 {
		t.Errorf("only %d books have sales", count)
	}
}

// seasonsToCut returns seasons of many ponds, with houses of all sizes.
func seasonsToCut() []impl.Season {
	return append(roomySeasons(), sampleSeasons()...)
}

func TestPromise94TheNextCellKeepsTheWayToTheOthers(t *testing.T) {
	for _, s := range seasonsToCut() {
		next := impl.NextCell(s)
		if next < 0 {
			continue
		}
		if impl.LoadOf(numberAt(s.Pond, next)) < impl.WorkLoad || hasNumber(impl.NarrowsOf(s.Pond, impl.WorkLoad), next) {
			t.Fatalf("NextCell(%v) = %d, which does not bear the load, or is a narrow", s, next)
		}
		sizes := impl.FieldSizes(s.Pond, impl.WorkLoad)
		if (next == 0) != (sizes[0] == 1) {
			t.Fatalf("NextCell(%v) = %d in a field of %d", s, next, sizes[0])
		}
	}
}

func TestPromise94TheNextCellHasTheThickestIce(t *testing.T) {
	for _, s := range seasonsToCut() {
		if got, want := impl.NextCell(s), nextByCutting(s); got != want {
			t.Fatalf("NextCell(%v) = %d, not %d", s, got, want)
		}
	}
}

func TestPromise95ThereIsANextCellAsLongAsTheShoreBears(t *testing.T) {
	counts := []int{0, 0}
	for _, s := range seasonsToCut() {
		bears := impl.SafeCells(s.Pond, impl.WorkLoad)[0]
		if next := impl.NextCell(s); (next == -1) == bears || next < -1 {
			t.Fatalf("NextCell(%v) = %d", s, next)
		}
		if bears {
			counts[1]++
		} else {
			counts[0]++
		}
	}
	if counts[0] < 300 || counts[1] < 300 {
		t.Errorf("%d shores do not bear the load, and %d do", counts[0], counts[1])
	}
}

// hasRoom reports whether a season has room for all cakes of the field of its shore.
func hasRoom(s impl.Season) bool {
	cakes := cakesOfField(s.Pond)
	return s.Stock+cakes <= s.W*s.D*impl.MaxHigh && s.Cut+cakes <= impl.MaxSold
}

func TestPromise96TheWholeFieldOfTheShoreCanBeCut(t *testing.T) {
	count := 0
	for _, s := range seasonsToCut() {
		if !hasRoom(s) {
			continue
		}
		after, cells := impl.CutAll(s)
		field := shoreCells(s.Pond)
		if !sameInts(ascending(cells), field) || len(cells) > 0 && lastOf(cells) != 0 {
			t.Fatalf("CutAll(%v) cuts %v of the field %v", s, cells, field)
		}
		want := s
		want.Pond = gridCopy(s.Pond)
		for _, cell := range field {
			want.Pond = openedAt(want.Pond, cell)
		}
		want.Stock += cakesOfField(s.Pond)
		want.Cut += cakesOfField(s.Pond)
		if !sameSeason(after, want) || impl.NextCell(after) != -1 {
			t.Fatalf("CutAll(%v) = %v, not %v", s, after, want)
		}
		if len(field) > 3 {
			count++
		}
	}
	if count < 100 {
		t.Errorf("only %d fields have more than 3 cells", count)
	}
}

func TestPromise96CellsAreCutAsLongAsThereIsRoom(t *testing.T) {
	count := 0
	for _, s := range append(sampleSeasons(), tightSeasons()...) {
		after, cells := impl.CutAll(s)
		want, order := cutAllByHand(s)
		if !sameSeason(after, want) || !sameInts(cells, order) || !impl.ValidSeason(after) {
			t.Fatalf("CutAll(%v) = %v, %v, not %v, %v", s, after, cells, want, order)
		}
		if len(cells) > 0 && len(cells) < len(shoreCells(s.Pond)) {
			count++
		}
	}
	if count < 100 {
		t.Errorf("only %d houses fill up on the way", count)
	}
}

// tightSeasons returns seasons of small ponds, with small houses or few cakes that may still be cut.
func tightSeasons() []impl.Season {
	list := []impl.Season{}
	for i, p := range pondsOf(2, 2, 0, 50, 100, 150, 300) {
		list = append(list, stocked(p, 1, 1, i%13, 3, 4, 50), stocked(p, 9, 9, 5, impl.MaxSold-8-i%9, 3, 0))
	}
	return list
}

func TestPromise97FromThePlanToTheBook(t *testing.T) {
	for _, s := range append(seasonsToCut(), tightSeasons()...) {
		all, cells := impl.CutAll(s)
		book := cutsOf(cells)
		if len(cells) > impl.MaxEvents {
			continue
		}
		after, ok := impl.RunBook(s, book)
		if !ok || !sameSeason(after, all) {
			t.Fatalf("CutAll(%v) = %v, %v, but RunBook is %v, %v", s, all, cells, after, ok)
		}
		if got := impl.RecoverBook(impl.FormatBook(book)); !sameEvents(got, book) {
			t.Fatalf("the cells %v are read back as %v", cells, got)
		}
	}
}

func TestPromise97PlansMayBeTooLong(t *testing.T) {
	s := impl.NewSeason(evenGrid(impl.MaxSide, impl.MaxSide, 50), impl.MaxSide, impl.MaxSide)
	all, cells := impl.CutAll(s)
	if len(cells) != 81 || all.Stock != 81 {
		t.Fatalf("CutAll = %v, %v", all, cells)
	}
	book := cutsOf(cells)
	half, ok := impl.RunBook(s, book[:impl.MaxEvents])
	after, fine := impl.RunBook(half, book[impl.MaxEvents:])
	if !ok || !fine || !sameSeason(after, all) {
		t.Errorf("after two books there is %v, not %v", after, all)
	}
	if end, ok := impl.RunBook(s, book); ok || !sameSeason(end, impl.Season{}) || impl.FormatBook(book) != "" {
		t.Errorf("RunBook of 81 events = %v, %v", end, ok)
	}
}

func TestPromise98FromWeatherToTheHouse(t *testing.T) {
	count := 0
	for _, s := range seasonsToFreeze() {
		_, before := cakesCutOf(s)
		for _, temps := range sampleWeathers() {
			cold, ok := impl.ApplyEvent(s, coldFor(temps...))
			if !ok || !isNowhereThinner(s.Pond, cold.Pond) || !hasRoom(cold) {
				continue
			}
			after, cakes := cakesCutOf(cold)
			if cakes < before {
				t.Fatalf("%d cakes are cut of %v, but %d after %v: %v", before, s, cakes, temps, after)
			}
			if cakes > before {
				count++
			}
		}
	}
	if count < 100 {
		t.Errorf("only after %d frosts more cakes are cut", count)
	}
}

// seasonsToFreeze returns seasons of ponds that have room for more ice.
func seasonsToFreeze() []impl.Season {
	list := []impl.Season{cornerSeason(), busySeason()}
	for _, p := range append(pondsOf(2, 2, 0, 40, 50, 90), onePond(), ringPond(), twoRingsPond(), chessPond(5, 5), mixedPond(3, 4, 2)) {
		list = append(list, stocked(p, 9, 9, 0, 0, 0, 0), stocked(p, 6, 5, 7, 100, 20, 60))
	}
	return list
}

// cakesCutOf returns a season after all is cut, and how many cakes that are.
func cakesCutOf(s impl.Season) (impl.Season, int) {
	after, _ := impl.CutAll(s)
	return after, after.Cut - s.Cut
}

// isNowhereThinner reports whether no cell of a pond is thinner than before.
func isNowhereThinner(before [][]int, after [][]int) bool {
	for cell := 0; cell < countCells(before); cell++ {
		if numberAt(after, cell) < numberAt(before, cell) {
			return false
		}
	}
	return true
}

// eventsToWrite returns events of all kinds, with small and great numbers, some of which have no text.
func eventsToWrite() []impl.Event {
	list := []impl.Event{}
	numbers := []int{0, 1, 9, 10, 99, 100, 12345, 100000, 999999, -1, 1000000, greatestInt, leastInt}
	for kind := -1; kind <= 4; kind++ {
		for _, cell := range numbers {
			for _, count := range numbers {
				list = append(list, impl.Event{Kind: kind, Cell: cell, Count: count}, impl.Event{Kind: kind, Count: cell, Price: count})
			}
		}
		for _, temp := range append(negated(numbers), 7, -70, 808) {
			list = append(list,
				impl.Event{Kind: kind, Temps: []int{temp}}, impl.Event{Kind: kind, Temps: []int{5, temp, -5}},
				impl.Event{Kind: kind, Temps: []int{-40, 0, temp}, Cell: 3, Count: 4, Price: 5})
		}
		list = append(list, impl.Event{Kind: kind, Temps: spread(300, 7, -999999, 999999)})
	}
	return list
}

func TestPromise99EventsAreReadBack(t *testing.T) {
	count := 0
	for _, e := range eventsToWrite() {
		text := impl.FormatEvent(e)
		if want := writtenByHand(e); text != want {
			t.Fatalf("FormatEvent(%v) = %q, not %q", e, text, want)
		}
		if text == "" {
			continue
		}
		count++
		back, ok := impl.ParseEvent(text)
		if !ok || impl.FormatEvent(back) != text || !sameEvent(back, withOthers(e, 0, nil)) {
			t.Fatalf("FormatEvent(%v) = %q, which is read back as %v, %v", e, text, back, ok)
		}
	}
	if count < 300 {
		t.Errorf("only %d events have texts", count)
	}
}

func TestPromise100TextsTellAllThatMatters(t *testing.T) {
	for _, s := range append(seasonsAtLimits(), cornerSeason(), busySeason()) {
		for _, e := range append(eventsFor(s), eventsToWrite()...) {
			text := impl.FormatEvent(e)
			if text == "" {
				continue
			}
			back, _ := impl.ParseEvent(text)
			after, ok := impl.ApplyEvent(s, back)
			want, fine := impl.ApplyEvent(s, e)
			if ok != fine || !sameSeason(after, want) {
				t.Fatalf("ApplyEvent(%v, %v) = %v, %v, but %v, %v when it is read back", s, e, want, fine, after, ok)
			}
		}
	}
}

func TestPromise101EventsAreWrittenBack(t *testing.T) {
	count := 0
	for _, text := range textsToTry() {
		e, ok := impl.ParseEvent(text)
		want, fine := readByHand(text)
		if !fine {
			want = impl.Event{}
		}
		if ok != fine || !sameEvent(e, want) {
			t.Fatalf("ParseEvent(%q) = %v, %v, not %v, %v", text, e, ok, want, fine)
		}
		if ok && impl.FormatEvent(e) != text {
			t.Fatalf("ParseEvent(%q) = %v, which is written back as %q", text, e, impl.FormatEvent(e))
		}
		if ok {
			count++
		}
	}
	if count < 500 || count > len(textsToTry())/2 {
		t.Errorf("%d texts tell events", count)
	}
}

func TestPromise102BooksAreReadBack(t *testing.T) {
	seasons, books := booksToRun()
	for i, s := range seasons {
		for _, book := range books[i] {
			text := impl.FormatBook(book)
			if text == "" {
				continue
			}
			after, ok := impl.RunBook(s, impl.RecoverBook(text))
			want, fine := impl.RunBook(s, book)
			if ok != fine || !sameSeason(after, want) {
				t.Fatalf("RunBook(%v, %v) = %v, %v, but %v, %v when it is read back", s, book, want, fine, after, ok)
			}
		}
	}
}

func TestPromise102BooksHaveALineForEachEvent(t *testing.T) {
	for _, book := range append(smallBooks(), sampleBooks(busySeason())...) {
		want := ""
		for _, e := range book {
			want += writtenByHand(e) + "\n"
		}
		if len(book) > impl.MaxEvents || hasEventWithoutText(book) {
			want = ""
		}
		if got := impl.FormatBook(book); got != want {
			t.Fatalf("FormatBook(%v) = %q, not %q", book, got, want)
		}
		if got := impl.RecoverBook(want); want != "" && !sameEvents(got, book) {
			t.Fatalf("RecoverBook(%q) = %v, not %v", want, got, book)
		}
	}
}

// hasEventWithoutText reports whether one of the events has no text.
func hasEventWithoutText(list []impl.Event) bool {
	for _, e := range list {
		if writtenByHand(e) == "" {
			return true
		}
	}
	return false
}

func TestPromise103ASeasonGoesOnAfterACrash(t *testing.T) {
	seasons, books := booksToRun()
	count := 0
	for i, s := range seasons {
		for _, book := range books[i] {
			if want, ok := impl.RunBook(s, book); ok && len(book) > 0 && impl.FormatBook(book) != "" {
				count++
				checkTornBook(t, s, book, want)
			}
		}
	}
	if count < 1000 {
		t.Errorf("only %d books were torn", count)
	}
}

// checkTornBook tears a book at each byte of its last line, and checks that the season goes on from the lines before it.
func checkTornBook(t *testing.T, s impl.Season, book []impl.Event, want impl.Season) {
	text := impl.FormatBook(book)
	last := book[len(book)-1]
	before, _ := impl.RunBook(s, book[:len(book)-1])
	for end := len(text) - len(impl.FormatEvent(last)) - 1; end < len(text); end++ {
		torn, ok := impl.RunBook(s, impl.RecoverBook(text[:end]))
		if !ok || !sameSeason(torn, before) {
			t.Fatalf("RunBook of %q is %v, %v, not %v", text[:end], torn, ok, before)
		}
		after, fine := impl.ApplyEvent(torn, last)
		if !fine || !sameSeason(after, want) {
			t.Fatalf("%v leads on from %q to %v, %v, not %v", last, text[:end], after, fine, want)
		}
	}
}

func TestPromise104WhatIsRecoveredWasWritten(t *testing.T) {
	for _, text := range textsOfBooks() {
		all := impl.RecoverBook(text)
		if want := recoveredByHand(text); !sameEvents(all, want) {
			t.Fatalf("RecoverBook(%q) = %v, not %v", text, all, want)
		}
		if back := impl.FormatBook(all); !beginsWith(text, back) || countNewlines(back) != len(all) {
			t.Fatalf("RecoverBook(%q) = %v, which is written back as %q", text, all, back)
		}
		for end := range len(text) {
			some := impl.RecoverBook(text[:end])
			if len(some) > len(all) || !sameEvents(some, all[:len(some)]) {
				t.Fatalf("RecoverBook(%q) = %v, but %v of the first %d bytes", text, all, some, end)
			}
		}
	}
}

// desksToAsk returns seasons and texts of books for desks, some of which are closed.
func desksToAsk() ([]impl.Season, []string) {
	whole, _ := story()
	seasons := append(seasonsAtLimits(), cornerSeason(), busySeason(),
		stocked([][]int{{49, 999}}, 3, 3, 7, 0, 0, 1), stocked(ringPond(), 4, 5, 200, 77, 88, 12345))
	return seasons, []string{
		"", whole, whole[:len(whole)-1], "melt\n", "cut 3\ncut 1\ncut 0\n", "cut 2\n", "sell 1 1000\nmelt\n", "what\ncut 3\n", "sell 1 5\nsell 0 1\n",
		"cold -50 -50\nmelt", "cold 401\n", repeatedText("melt\n", 60), repeatedText("melt\n", 60) + "cut 2\n", "cold -400\ncut 0\n",
	}
}

func TestPromise105EachLineHasAnAnswer(t *testing.T) {
	seasons, books := desksToAsk()
	for _, s := range seasons {
		for _, book := range books {
			for n := 0; n <= impl.MaxDesk; n++ {
				if got := countNewlines(impl.RunDesk(s, book, linesToAsk()[:n])); got != n {
					t.Fatalf("RunDesk(%v, %q) has %d lines, not %d", s, book, got, n)
				}
			}
		}
	}
}

func TestPromise106TheDeskAnswersLineByLine(t *testing.T) {
	seasons, books := desksToAsk()
	for _, s := range seasons {
		for _, book := range books {
			want := ""
			after, ok := ranByHand(s, recoveredByHand(book))
			for n, line := range linesToAsk() {
				if got := impl.RunDesk(s, book, linesToAsk()[:n]); got != want {
					t.Fatalf("RunDesk(%v, %q, %q) = %q, not %q", s, book, linesToAsk()[:n], got, want)
				}
				want += answeredByHand(after, ok, line)
			}
			if got := impl.RunDesk(s, book, linesToAsk()); got != want {
				t.Fatalf("RunDesk(%v, %q) = %q, not %q", s, book, got, want)
			}
		}
	}
}
