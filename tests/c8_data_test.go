package tests

import "loop.example/iceharvest/impl"

// coldFor returns an event of weather.
func coldFor(temps ...int) impl.Event {
	return impl.Event{Kind: impl.EvCold, Temps: temps}
}

// cutAt returns an event of a cell that is cut.
func cutAt(cell int) impl.Event {
	return impl.Event{Kind: impl.EvCut, Cell: cell}
}

// soldFor returns an event of cakes that are sold.
func soldFor(count int, price int) impl.Event {
	return impl.Event{Kind: impl.EvSell, Count: count, Price: price}
}

// aDay returns an event of a day in the house.
func aDay() impl.Event {
	return impl.Event{Kind: impl.EvMelt}
}

// cutsOf returns events of cells that are cut.
func cutsOf(cells []int) []impl.Event {
	list := make([]impl.Event, len(cells))
	for i, cell := range cells {
		list[i] = cutAt(cell)
	}
	return list
}

// repeatedEvent returns n events that are equal.
func repeatedEvent(e impl.Event, n int) []impl.Event {
	list := make([]impl.Event, n)
	for i := range list {
		list[i] = copyEvent(e)
	}
	return list
}

// stocked returns a season with cakes in its house, sold and lost, that were all cut.
func stocked(p [][]int, w int, d int, stock int, sold int, lost int, money int) impl.Season {
	return impl.Season{Pond: p, W: w, D: d, Stock: stock, Sold: sold, Lost: lost, Cut: stock + sold + lost, Money: money}
}

// cornerPond returns a pond of which three cells are before the shore.
func cornerPond() [][]int {
	return [][]int{{100, 60}, {0, 120}}
}

// cornerSeason returns a season that begins, with room for 48 cakes.
func cornerSeason() impl.Season {
	return stocked(cornerPond(), 2, 2, 0, 0, 0, 0)
}

// busySeason returns a season in which much has happened.
func busySeason() impl.Season {
	return stocked(cornerPond(), 2, 2, 20, 3, 4, 50)
}

// sampleSeasons returns seasons of all ponds, with houses that are empty, in use and full.
func sampleSeasons() []impl.Season {
	list := []impl.Season{cornerSeason(), busySeason()}
	for i, p := range samplePonds() {
		w := 1 + i%impl.MaxSide
		d := 1 + i*5%impl.MaxSide
		full := w * d * impl.MaxHigh
		list = append(list,
			stocked(gridCopy(p), w, d, 0, 0, 0, 0),
			stocked(gridCopy(p), w, d, full, i, 3*i, 100*i),
			stocked(gridCopy(p), impl.MaxSide, impl.MaxSide, 12*i, 50, i, 999),
			stocked(gridCopy(p), 1, 1, 5, 0, i, 0))
	}
	return append(list, seasonsAtLimits()...)
}

// seasonsAtLimits returns valid seasons with the greatest numbers that there may be, or nearly.
func seasonsAtLimits() []impl.Season {
	large := evenGrid(impl.MaxSide, impl.MaxSide, impl.MaxThick)
	return []impl.Season{
		stocked(large, 9, 9, 972, 0, 0, 0),
		stocked(large, 9, 9, 971, 0, 0, impl.MaxMoney),
		stocked(cornerPond(), 9, 9, 0, impl.MaxSold, 0, impl.MaxMoney),
		stocked(cornerPond(), 9, 9, 0, 0, impl.MaxSold, impl.MaxMoney-1),
		stocked(cornerPond(), 9, 9, 972, impl.MaxSold-972, 0, impl.MaxMoney-1000),
		stocked(cornerPond(), 9, 9, 972, 0, impl.MaxSold-972, impl.MaxMoney-972000),
		stocked(cornerPond(), 9, 9, 1, impl.MaxSold-3, 1, impl.MaxMoney-5),
		stocked(cornerPond(), 9, 9, 1, impl.MaxSold-4, 1, 0),
		stocked(cornerPond(), 1, 1, 12, 0, 0, 0),
		stocked(cornerPond(), 1, 1, 11, 0, 0, 0),
		stocked(cornerPond(), 1, 1, 10, 0, 0, 0),
	}
}

// badSeasons returns seasons that are not valid, each for one reason alone, as far as the sum of the cakes lets it.
func badSeasons() []impl.Season {
	list := []impl.Season{{}}
	for _, p := range badPonds() {
		list = append(list, stocked(p, 2, 2, 20, 3, 4, 50))
	}
	for _, side := range badHouseSides() {
		list = append(list, stocked(cornerPond(), side, 2, 0, 3, 4, 50), stocked(cornerPond(), 2, side, 0, 3, 4, 50))
	}
	list = append(list, badStocks()...)
	for _, money := range []int{-1, -50, impl.MaxMoney + 1, greatestInt, leastInt} {
		list = append(list, stocked(cornerPond(), 2, 2, 20, 3, 4, money))
	}
	for _, cut := range []int{0, 26, 28, -27, 20, 7, impl.MaxSold, greatestInt, leastInt} {
		s := busySeason()
		s.Cut = cut
		list = append(list, s)
	}
	return list
}

// badStocks returns seasons with cakes in their houses, sold or lost that are too few, too many, or too many together.
func badStocks() []impl.Season {
	p := cornerPond()
	return []impl.Season{
		stocked(p, 2, 2, -1, 3, 4, 50),
		stocked(p, 2, 2, 49, 3, 4, 50),
		stocked(p, 1, 1, 13, 0, 0, 0),
		stocked(p, 9, 1, 109, 0, 0, 0),
		stocked(p, 1, 9, 109, 0, 0, 0),
		stocked(p, 9, 9, 973, 0, 0, 0),
		stocked(p, 2, 2, 20, -1, 4, 50),
		stocked(p, 2, 2, 20, 3, -1, 50),
		stocked(p, 2, 2, 20, impl.MaxSold+1, -21, 50),
		stocked(p, 2, 2, 20, -21, impl.MaxSold+1, 50),
		stocked(p, 2, 2, 1, impl.MaxSold, 0, 50),
		stocked(p, 2, 2, 1, 0, impl.MaxSold, 50),
		stocked(p, 2, 2, 0, impl.MaxSold, 1, 50),
		stocked(p, 2, 2, 20, impl.MaxSold-23, 4, 50),
		stocked(p, 2, 2, 0, 1, -1, 50),
		// Sums and products that are too great for an int.
		stocked(p, 2, 2, 2, greatestInt, greatestInt, 50),
		stocked(p, 2, 2, 0, leastInt, leastInt, 50),
		stocked(p, greatestInt, greatestInt, 0, 0, 0, 0),
		stocked(p, leastInt, 2, 0, 0, 0, 0),
		stocked(p, 1<<32, 1<<32, 0, 0, 0, 0),
		stocked(p, -1, -1, 0, 0, 0, 0),
		stocked(p, -3, -4, 100, 0, 0, 0),
	}
}

// otherKinds returns numbers that are no kinds of events.
func otherKinds() []int {
	return []int{-1, 4, 5, 100, greatestInt, leastInt}
}

// eventsFor returns events that are possible in a season, and others that are not.
func eventsFor(s impl.Season) []impl.Event {
	list := append(salesFor(s), aDay())
	for cell := -1; cell <= countCells(s.Pond); cell++ {
		list = append(list, cutAt(cell))
	}
	list = append(list, cutAt(greatestInt), cutAt(leastInt))
	for _, temps := range [][]int{nil, {0}, {-50}, {-400, 20, 400}, {19, 20}, {401}, {0, -401}, repeated(-400, 200), repeated(0, 201)} {
		list = append(list, coldFor(temps...))
	}
	for _, kind := range otherKinds() {
		list = append(list, impl.Event{Kind: kind, Cell: 0, Count: 1, Price: 1})
	}
	return list
}

// salesFor returns events of cakes that are sold, some of which are not possible in a season.
func salesFor(s impl.Season) []impl.Event {
	list := []impl.Event{}
	for _, count := range []int{leastInt, -1, 0, 1, 2, s.Stock - 1, s.Stock, s.Stock + 1, greatestInt} {
		for _, price := range []int{leastInt, -1, 0, 1, 5, impl.MaxPrice, impl.MaxPrice + 1, greatestInt} {
			list = append(list, soldFor(count, price))
		}
	}
	return list
}

// withOthers returns an event with other values for all that its kind does not name.
func withOthers(e impl.Event, number int, temps []int) impl.Event {
	other := impl.Event{Kind: e.Kind, Temps: copyInts(temps), Cell: number, Count: number, Price: number}
	switch e.Kind {
	case impl.EvCold:
		other.Temps = copyInts(e.Temps)
	case impl.EvCut:
		other.Cell = e.Cell
	case impl.EvSell:
		other.Count = e.Count
		other.Price = e.Price
	}
	return other
}

// mixedBook returns n events that are possible one after the other in a season, as far as they are found, and look irregular.
func mixedBook(s impl.Season, n int, seed int) []impl.Event {
	list := []impl.Event{}
	for i, number := range spread(n, seed, 0, 99) {
		e := impl.Event{}
		switch number % 5 {
		case 0:
			e = coldFor(spread(1+number%4, number, -300, 60)...)
		case 1, 2:
			// Where the workers reach no cell, this is the cell -1.
			e = cutAt(lastOf(shoreCells(s.Pond)))
		case 3:
			e = soldFor(1+(number+i)%3, number*7)
		case 4:
			e = aDay()
		}
		next, ok := appliedByHand(s, e)
		if ok {
			list = append(list, e)
			s = next
		}
	}
	return list
}

// bookKinds returns some events for a corner season, of which not all are possible at any time.
func bookKinds() []impl.Event {
	return []impl.Event{coldFor(-50), coldFor(30, 0), cutAt(3), cutAt(1), cutAt(0), soldFor(2, 20), soldFor(1, 0), aDay()}
}

// smallBooks returns all books of at most three events of bookKinds.
func smallBooks() [][]impl.Event {
	list := [][]impl.Event{{}}
	first := 0
	for length := 1; length <= 3; length++ {
		end := len(list)
		for _, book := range list[first:end] {
			for _, e := range bookKinds() {
				list = append(list, append(copyEvents(book), e))
			}
		}
		first = end
	}
	return list
}

// sampleBooks returns books for a season, short ones and long ones, in some of which an event is not possible.
func sampleBooks(s impl.Season) [][]impl.Event {
	list := [][]impl.Event{
		nil, {aDay()}, {coldFor()}, {cutAt(0)}, {cutAt(0), aDay()}, {aDay(), cutAt(0), cutAt(0)},
		{cutAt(-1)}, {aDay(), soldFor(0, 5), aDay()}, {coldFor(-50, -50), coldFor(401), aDay()},
		{soldFor(1, 1000), soldFor(1, 1001)}, {aDay(), {Kind: 4}},
		repeatedEvent(aDay(), impl.MaxEvents), repeatedEvent(aDay(), impl.MaxEvents+1),
	}
	for seed := 1; seed <= 3; seed++ {
		book := mixedBook(s, 30*seed, seed)
		list = append(list, book, append(copyEvents(book), cutAt(81)))
	}
	return list
}

// story returns the text of a book for a corner season, and its events.
func story() (string, []impl.Event) {
	text := "cut 3\ncut 1\nsell 2 20\nmelt\ncold -50\n"
	return text, []impl.Event{cutAt(3), cutAt(1), soldFor(2, 20), aDay(), coldFor(-50)}
}

// sampleTexts returns texts of events, with the longest and the shortest numbers among them.
func sampleTexts() []string {
	return []string{
		"cold", "cold 0", "cold -1", "cold -50 -50 20", "cold 999999 -999999", "cold 10 100 1000 10000 100000", "cold 0 0 0",
		"cut 0", "cut 7", "cut 80", "cut 999999", "cut 100000",
		"sell 1 20", "sell 0 0", "sell 999999 999999", "sell 12 1000", "sell 10 0", "melt",
	}
}

// otherTexts returns texts that tell no event.
func otherTexts() []string {
	return []string{
		"", " ", "  ", "\n", "0", "1", "-", "cut", "cut ", "sell", "sell ", "sell 1", "sell 1 ", "cold ", "melt ", "melt 1",
		" cold", " cut 1", " sell 1 2", " melt", "cut 1 ", "sell 1 2 ", "cold 5 ", "cut  1", "sell  1 2", "sell 1  2", "cold  5", "cold 5  6",
		"cut 01", "cut 00", "sell 01 2", "sell 1 02", "cold 05", "cold -05", "cold 00", "cold -00", "cold -0", "cut -0", "sell -0 1", "sell 1 -0",
		"cut +1", "sell +1 2", "sell 1 +2", "cold +5", "cut -1", "sell -1 2", "sell 1 -2", "cold --5", "cold -", "cold 5-", "cold 5-6", "cut -", "cut 1-",
		"cut 1000000", "sell 1000000 1", "sell 1 1000000", "cold 1000000", "cold -1000000", "cold 1 2000000 3",
		"cut 9223372036854775807", "cut 9223372036854775808", "cut 18446744073709551616", "cut 18446744073709551617", "cold -9223372036854775808",
		"cut 1 2", "sell 1 2 3", "cut 1 1", "cut 0 0", "melt 0",
		"Cut 1", "CUT 1", "cuT 1", "Melt", "MELT", "Cold", "COLD 5", "Sell 1 2", "cuts 1", "cu 1", "melts", "mel", "colder", "col", "selll 1 2", "cut1", "cold5", "sell1 2",
		"cut\t1", "cut\n1", "cut 1\n", "\ncut 1", "cold\n", "cold 5\n6", "sell 1\n2", "melt\n", "melt\r", "cut 1\r", "cold 5\t6",
		"cut a", "cut 1a", "cut a1", "cut /", "cut :", "cut 1.", "cut 1,0", "cold 5,6", "cold 1e3", "cut 0x1", "cut \x001", "melt\x00", "cut \xff", "cut １",
		"stock", "next", "none", "what", "closed", "hold 5", "open 1",
	}
}

// tailsAfter returns a text with all tails of up to five spaces, signs and digits.
func tailsAfter(head string) []string {
	list := []string{head}
	first := 0
	for length := 1; length <= 5; length++ {
		end := len(list)
		for _, text := range list[first:end] {
			for _, tail := range []string{" ", "-", "0", "1", "9"} {
				list = append(list, text+tail)
			}
		}
		first = end
	}
	return list
}

// changedTexts returns a text without one byte, with another one in its place, and with one more.
func changedTexts(text string) []string {
	list := []string{}
	for i := 0; i <= len(text); i++ {
		for _, other := range []string{" ", "0", "7", "-", "+", "\n", "\t", "c", "C", ".", "/", ":", "\x00", "\xff"} {
			list = append(list, text[:i]+other+text[i:])
			if i < len(text) {
				list = append(list, text[:i]+other+text[i+1:])
			}
		}
		if i < len(text) {
			list = append(list, text[:i]+text[i+1:], text[:i])
		}
	}
	return list
}

// textsToTry returns texts of events, and many that are nearly such texts.
func textsToTry() []string {
	list := append(sampleTexts(), otherTexts()...)
	for _, head := range []string{"cold", "cut", "sell", "melt"} {
		list = append(list, tailsAfter(head)...)
	}
	for _, text := range sampleTexts() {
		list = append(list, changedTexts(text)...)
	}
	return list
}

// textsOfBooks returns texts of books, whole ones, torn ones, and others.
func textsOfBooks() []string {
	whole, _ := story()
	long := "cold -400 -400\ncut 3\n" + repeatedText("sell 1 20\nmelt\n", 29)
	list := []string{
		"", "\n", "\n\n", "melt", "melt\n", "melt\nmelt", "melt\n\nmelt\n", "\nmelt\n", "melt\nmelts\nmelt\n", "melt\r\nmelt\n", "melt\n melt\nmelt\n",
		"help\nmelt\n", "cold\n", "cold\ncold\n", "cold \ncold\n", "cut 1\ncut 01\ncut 1\n", "cut 1\ncut -1\n", "sell 1 2\nsell 1\n2\n", "CUT 1\n", whole,
		long, long + "cut 1\n", long + "cut 1", long + "what\n", long[5:], repeatedText("melt\n", 60), repeatedText("melt\n", 61), repeatedText("melt\n", 59) + "melt",
	}
	return append(list, changedTexts("cut 3\nmelt\ncold -5 7\n")...)
}

// repeatedText returns a text n times.
func repeatedText(text string, n int) string {
	out := ""
	for i := 0; i < n; i++ {
		out += text
	}
	return out
}

// smallPonds returns all ponds of some small shapes with some thicknesses.
func smallPonds() [][][]int {
	list := pondsOf(2, 2, 0, 49, 50, 60, 999)
	list = append(list, pondsOf(1, 4, 0, 50, 51, 100)...)
	list = append(list, pondsOf(4, 1, 0, 50, 51, 100)...)
	list = append(list, pondsOf(2, 3, 0, 50, 60)...)
	return append(list, pondsOf(3, 3, 0, 60)...)
}

// pondsOf returns all ponds with the sides of which each cell has one of the thicknesses.
func pondsOf(rows int, columns int, thicks ...int) [][][]int {
	list := smallHeaps(rows, columns, len(thicks)-1)
	for _, p := range list {
		for y := range p {
			for x := range p[y] {
				p[y][x] = thicks[p[y][x]]
			}
		}
	}
	return list
}

// roomySeasons returns seasons of all small ponds, and of all sample ponds, with the largest house.
func roomySeasons() []impl.Season {
	list := []impl.Season{}
	for _, p := range append(smallPonds(), samplePonds()...) {
		list = append(list, stocked(p, impl.MaxSide, impl.MaxSide, 0, 0, 0, 0))
	}
	return list
}

// copyEvent returns the same event in new memory.
func copyEvent(e impl.Event) impl.Event {
	e.Temps = copyInts(e.Temps)
	return e
}

// copyEvents returns the same events in new memory.
func copyEvents(list []impl.Event) []impl.Event {
	out := make([]impl.Event, len(list))
	for i, e := range list {
		out[i] = copyEvent(e)
	}
	return out
}

// seasonCopy returns the same season in new memory.
func seasonCopy(s impl.Season) impl.Season {
	s.Pond = gridCopy(s.Pond)
	return s
}

// sameSeason reports whether two seasons are equal.
func sameSeason(a impl.Season, b impl.Season) bool {
	return sameGrid(a.Pond, b.Pond) && a.W == b.W && a.D == b.D && a.Stock == b.Stock && a.Sold == b.Sold &&
		a.Lost == b.Lost && a.Cut == b.Cut && a.Money == b.Money
}

// sameEvent reports whether two events are equal.
func sameEvent(a impl.Event, b impl.Event) bool {
	return a.Kind == b.Kind && sameInts(a.Temps, b.Temps) && a.Cell == b.Cell && a.Count == b.Count && a.Price == b.Price
}

// sameEvents reports whether two lists have the same events in the same order.
func sameEvents(a []impl.Event, b []impl.Event) bool {
	if len(a) != len(b) {
		return false
	}
	for i := range a {
		if !sameEvent(a[i], b[i]) {
			return false
		}
	}
	return true
}

// beginsWith reports whether a text has another one as its beginning.
func beginsWith(text string, start string) bool {
	return len(text) >= len(start) && text[:len(start)] == start
}

// countNewlines returns how many newlines a text has.
func countNewlines(text string) int {
	count := 0
	for i := range len(text) {
		if text[i] == '\n' {
			count++
		}
	}
	return count
}

// shoreCells returns the cells that the workers reach from the cell 0, ascending.
func shoreCells(p [][]int) []int {
	if numberAt(p, 0) < 50 {
		return nil
	}
	cells := []int{0}
	for i := 0; i < len(cells); i++ {
		for _, next := range cellsNextTo(p, cells[i]) {
			if numberAt(p, next) >= 50 && !hasNumber(cells, next) {
				cells = append(cells, next)
			}
		}
	}
	return ascending(cells)
}

// cakesOfField returns how many cakes the cells have that the workers reach.
func cakesOfField(p [][]int) int {
	cakes := 0
	for _, cell := range shoreCells(p) {
		for left := numberAt(p, cell); left >= 50; left -= 50 {
			cakes++
		}
	}
	return cakes
}

// openedAt returns a pond with open water at a cell.
func openedAt(p [][]int, cell int) [][]int {
	opened := gridCopy(p)
	opened[cell/len(p[0])][cell%len(p[0])] = 0
	return opened
}

// appliedByHand returns a valid season after an event, and whether it is possible.
func appliedByHand(s impl.Season, e impl.Event) (impl.Season, bool) {
	after := seasonCopy(s)
	ok := false
	switch e.Kind {
	case impl.EvCold:
		ok = len(e.Temps) <= 200 && countWithin(e.Temps, -400, 401) == len(e.Temps)
		if ok {
			after.Pond = grownByCells(s.Pond, e.Temps)
		}
	case impl.EvCut:
		ok = hasNumber(shoreCells(s.Pond), e.Cell)
		if ok {
			after = cutByHand(s, e.Cell)
		}
	case impl.EvSell:
		ok = e.Count > 0 && e.Count <= s.Stock && e.Price >= 0 && e.Price <= 1000
		if ok {
			after = soldByCakes(s, e.Count, e.Price)
		}
	case impl.EvMelt:
		ok = true
		after.Stock = sumOfHeap(meltedByLayers(filledByCakes(s.W, s.D, s.Stock)))
		after.Lost = s.Cut - s.Sold - after.Stock
	}
	if !ok || after.Stock > 12*s.W*s.D || after.Cut > 100000 || after.Money > 9000000 {
		return impl.Season{}, false
	}
	return after, true
}

// grownByCells returns a pond after some hours.
func grownByCells(p [][]int, temps []int) [][]int {
	grown := gridCopy(p)
	for y := range grown {
		for x, thick := range grown[y] {
			grown[y][x] = impl.ThickOf(impl.RunIce(thick*thick, temps))
		}
	}
	return grown
}

// cutByHand returns a season after a cell is cut.
func cutByHand(s impl.Season, cell int) impl.Season {
	after := seasonCopy(s)
	for left := numberAt(s.Pond, cell); left >= 50; left -= 50 {
		after.Stock++
		after.Cut++
	}
	after.Pond = openedAt(s.Pond, cell)
	return after
}

// soldByCakes returns a season after cakes are sold one by one.
func soldByCakes(s impl.Season, count int, price int) impl.Season {
	for i := 0; i < count; i++ {
		s.Stock--
		s.Sold++
		s.Money += price
	}
	return s
}

// filledByCakes returns a house that is filled cake by cake, each one on the first of the lowest places.
func filledByCakes(w int, d int, n int) [][]int {
	h := evenGrid(d, w, 0)
	for i := 0; i < n; i++ {
		cell := i % (w * d)
		h[cell/w][cell%w]++
	}
	return h
}

// ranByHand returns a valid season after events, and whether all are possible.
func ranByHand(s impl.Season, list []impl.Event) (impl.Season, bool) {
	if len(list) > 60 {
		return impl.Season{}, false
	}
	for _, e := range list {
		next, ok := appliedByHand(s, e)
		if !ok {
			return impl.Season{}, false
		}
		s = next
	}
	return s, true
}

// nextByCutting returns the thickest cell without which the workers still reach all others; -1 if they reach none.
func nextByCutting(s impl.Season) int {
	field := shoreCells(s.Pond)
	if len(field) <= 1 {
		return len(field) - 1
	}
	next := -1
	for _, cell := range field[1:] {
		left := shoreCells(openedAt(s.Pond, cell))
		if len(left) == len(field)-1 && (next < 0 || numberAt(s.Pond, cell) > numberAt(s.Pond, next)) {
			next = cell
		}
	}
	return next
}

// cutAllByHand returns a valid season after all cells are cut, and the cells.
func cutAllByHand(s impl.Season) (impl.Season, []int) {
	cells := []int{}
	for {
		cell := nextByCutting(s)
		after, ok := appliedByHand(s, cutAt(cell))
		if !ok {
			return s, cells
		}
		cells = append(cells, cell)
		s = after
	}
}

// decimalByPowers returns a number of at most seven digits in decimal.
func decimalByPowers(number int) string {
	if number < 0 {
		return "-" + decimalByPowers(-number)
	}
	text := ""
	for power := 1000000; power >= 1; power /= 10 {
		if number >= power || power == 1 {
			digit := number / power % 10
			text += "0123456789"[digit : digit+1]
		}
	}
	return text
}

// writtenByHand returns the text of an event, or "".
func writtenByHand(e impl.Event) string {
	named := []int{e.Cell, e.Count, e.Price}
	if countWithin(named, 0, 1000000) != 3 || countWithin(e.Temps, -999999, 1000000) != len(e.Temps) {
		return ""
	}
	switch e.Kind {
	case impl.EvCold:
		text := "cold"
		for _, temp := range e.Temps {
			text += " " + decimalByPowers(temp)
		}
		return text
	case impl.EvCut:
		return "cut " + decimalByPowers(e.Cell)
	case impl.EvSell:
		return "sell " + decimalByPowers(e.Count) + " " + decimalByPowers(e.Price)
	case impl.EvMelt:
		return "melt"
	}
	return ""
}

// splitAt returns the parts of a text between separators.
func splitAt(text string, separator byte) []string {
	parts := []string{""}
	for i := 0; i < len(text); i++ {
		if text[i] == separator {
			parts = append(parts, "")
		} else {
			parts[len(parts)-1] += text[i : i+1]
		}
	}
	return parts
}

// readNumber returns the number that a text tells, of at most six digits, and whether it tells one.
func readNumber(text string) (int, bool) {
	if len(text) < 1 || len(text) > 6 || len(text) > 1 && text[0] == '0' {
		return 0, false
	}
	number := 0
	for i := range len(text) {
		if text[i] < '0' || text[i] > '9' {
			return 0, false
		}
		number = number*10 + int(text[i]) - '0'
	}
	return number, true
}

// readTemp returns the number that a text tells, which may be less than 0, and whether it tells one.
func readTemp(text string) (int, bool) {
	if !beginsWith(text, "-") {
		return readNumber(text)
	}
	number, ok := readNumber(text[1:])
	return -number, ok && number > 0
}

// readByHand returns the event of a text, and whether it has one.
func readByHand(text string) (impl.Event, bool) {
	words := splitAt(text, ' ')
	switch {
	case words[0] == "cold":
		e := coldFor()
		for _, word := range words[1:] {
			temp, ok := readTemp(word)
			if !ok {
				return impl.Event{}, false
			}
			e.Temps = append(e.Temps, temp)
		}
		return e, true
	case words[0] == "cut" && len(words) == 2:
		cell, ok := readNumber(words[1])
		return impl.Event{Kind: impl.EvCut, Cell: cell}, ok
	case words[0] == "sell" && len(words) == 3:
		count, first := readNumber(words[1])
		price, second := readNumber(words[2])
		return soldFor(count, price), first && second
	}
	return aDay(), text == "melt"
}

// recoveredByHand returns the events of a book.
func recoveredByHand(text string) []impl.Event {
	list := []impl.Event{}
	lines := splitAt(text, '\n')
	for _, line := range lines[:len(lines)-1] {
		e, ok := readByHand(line)
		if !ok || len(list) == 60 {
			return list
		}
		list = append(list, e)
	}
	return list
}

// answeredByHand returns the answer to a line about a season after its book, if that could be run.
func answeredByHand(after impl.Season, ok bool, line string) string {
	if !ok {
		return "closed\n"
	}
	if line == "next" && nextByCutting(after) < 0 {
		return "none\n"
	}
	switch line {
	case "stock":
		return decimalByPowers(after.Stock) + "\n"
	case "sold":
		return decimalByPowers(after.Sold) + "\n"
	case "lost":
		return decimalByPowers(after.Lost) + "\n"
	case "cut":
		return decimalByPowers(after.Cut) + "\n"
	case "money":
		return decimalByPowers(after.Money) + "\n"
	case "next":
		return decimalByPowers(nextByCutting(after)) + "\n"
	}
	return "what\n"
}

// linesToAsk returns lines for a desk, as many as there may be, of which some are no questions.
func linesToAsk() []string {
	return []string{
		"stock", "sold", "lost", "cut", "money", "next", "", "help", "stock ", " stock", "Stock", "stocks", "cut 3", "next\n", "none", "closed", "what",
		"mone", "money", "stock",
	}
}
