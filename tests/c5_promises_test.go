package tests

import (
	"testing"

	"loop.example/iceharvest/impl"
)

func TestPromise54HeapsCanBeTakenAway(t *testing.T) {
	for _, h := range manyHeaps() {
		if !impl.ValidHeap(h) || !impl.ValidHeap(turnedGrid(h)) {
			t.Errorf("ValidHeap of %v, or of the turned heap", h)
		}
		if empty := evenGrid(len(h), len(h[0]), 0); !impl.ValidHeap(empty) {
			t.Errorf("ValidHeap(%v) is false", empty)
		}
	}
	for rows := 1; rows <= impl.MaxSide; rows++ {
		for columns := 1; columns <= impl.MaxSide; columns++ {
			for high := 0; high <= impl.MaxHigh; high++ {
				if !impl.ValidHeap(evenGrid(rows, columns, high)) {
					t.Errorf("ValidHeap of %d rows and %d columns of the height %d", rows, columns, high)
				}
			}
		}
	}
}

func TestPromise55CakesAreCounted(t *testing.T) {
	for _, h := range manyHeaps() {
		cakes := impl.CakesIn(h)
		if cakes != sumOfHeap(h) || impl.CakesIn(turnedGrid(h)) != cakes {
			t.Errorf("CakesIn(%v) = %d, turned %d", h, cakes, impl.CakesIn(turnedGrid(h)))
		}
		for y := 1; y < len(h); y++ {
			if sum := impl.CakesIn(h[:y]) + impl.CakesIn(h[y:]); sum != cakes {
				t.Errorf("CakesIn(%v) = %d, but of its rows %d", h, cakes, sum)
			}
		}
		if len(h) < impl.MaxSide {
			more := append(gridCopy(h), h[0])
			if got := impl.CakesIn(more); got != cakes+impl.CakesIn([][]int{h[0]}) {
				t.Errorf("CakesIn(%v) = %d", more, got)
			}
		}
	}
}

func TestPromise56AirReachesAHeapFromAllSides(t *testing.T) {
	for _, h := range manyHeaps() {
		faces := impl.FacesOf(h)
		if want := facesByCakes(h); faces != want {
			t.Errorf("FacesOf(%v) = %d, not %d", h, faces, want)
		}
		if turned := impl.FacesOf(turnedGrid(h)); turned != faces {
			t.Errorf("FacesOf(%v) = %d, turned %d", h, faces, turned)
		}
		cakes := impl.CakesIn(h)
		if faces > 5*cakes || cakes > 0 && faces < 5 {
			t.Errorf("FacesOf(%v) = %d of %d cakes", h, faces, cakes)
		}
	}
}

func TestPromise57ACakeMoreCoversFaces(t *testing.T) {
	for _, h := range manyHeaps() {
		for cell := 0; cell < countCells(h); cell++ {
			if numberAt(h, cell) == impl.MaxHigh {
				continue
			}
			more := impl.FacesOf(impl.AddCake(h, cell)) - impl.FacesOf(h)
			want := 4 - 2*cakesBesidePlace(h, cell)
			if numberAt(h, cell) == 0 {
				want++
			}
			if more != want {
				t.Fatalf("a cake more at %d of %v: %d faces more, not %d", cell, h, more, want)
			}
		}
	}
}

// cakesBesidePlace returns how many cakes are beside the place of one more cake at a cell.
func cakesBesidePlace(h [][]int, cell int) int {
	count := 0
	for _, next := range cellsNextTo(h, cell) {
		if numberAt(h, next) > numberAt(h, cell) {
			count++
		}
	}
	return count
}

func TestPromise58WhatIsTakenCanBePutBack(t *testing.T) {
	for _, h := range manyHeaps() {
		for cell := 0; cell < countCells(h); cell++ {
			if numberAt(h, cell) > 0 {
				less := impl.TakeCake(h, cell)
				checkOneChanged(t, h, less, cell, -1)
				if back := impl.AddCake(less, cell); !sameGrid(back, h) {
					t.Fatalf("AddCake(%v, %d) = %v, not %v", less, cell, back, h)
				}
			}
			if numberAt(h, cell) < impl.MaxHigh {
				more := impl.AddCake(h, cell)
				checkOneChanged(t, h, more, cell, 1)
				if back := impl.TakeCake(more, cell); !sameGrid(back, h) {
					t.Fatalf("TakeCake(%v, %d) = %v, not %v", more, cell, back, h)
				}
			}
		}
	}
}

// checkOneChanged checks that a heap is another one, but for some cakes at one cell.
func checkOneChanged(t *testing.T, h [][]int, changed [][]int, cell int, by int) {
	want := gridCopy(h)
	want[cell/len(h[0])][cell%len(h[0])] += by
	if !sameGrid(changed, want) || !impl.ValidHeap(changed) {
		t.Fatalf("%v with %d at %d became %v", h, by, cell, changed)
	}
}

func TestPromise59HousesAreFilledLayerByLayer(t *testing.T) {
	for w := 1; w <= impl.MaxSide; w++ {
		for d := 1; d <= impl.MaxSide; d++ {
			checkFilling(t, w, d)
		}
	}
}

// checkFilling checks that a house is filled cake by cake, each one in the next place.
func checkFilling(t *testing.T, w int, d int) {
	want := evenGrid(d, w, 0)
	for n := 0; n <= w*d*impl.MaxHigh; n++ {
		h := impl.FillHouse(w, d, n)
		if !sameGrid(h, want) || impl.CakesIn(h) != n {
			t.Fatalf("FillHouse(%d, %d, %d) = %v, not %v", w, d, n, h, want)
		}
		if lowest, highest := heightsOf(h); highest-lowest > 1 {
			t.Fatalf("FillHouse(%d, %d, %d) = %v", w, d, n, h)
		}
		place := n % (w * d)
		want[place/w][place%w]++
	}
}

// heightsOf returns the least and the greatest height of a heap.
func heightsOf(h [][]int) (int, int) {
	lowest := h[0][0]
	highest := h[0][0]
	for _, row := range h {
		for _, high := range row {
			if high < lowest {
				lowest = high
			}
			if high > highest {
				highest = high
			}
		}
	}
	return lowest, highest
}

func TestPromise60NoBoxHasFewerFaces(t *testing.T) {
	for n := 1; n <= impl.MaxSide*impl.MaxSide*impl.MaxHigh; n++ {
		w, d, high := impl.BestBox(n)
		if w*d*high == 0 {
			checkNoBox(t, n)
			continue
		}
		best := impl.FacesOf(impl.FillHouse(w, d, n))
		if w*d*high != n || best != boxFaces(w, d, high) {
			t.Fatalf("BestBox(%d) = %d, %d, %d, with %d faces", n, w, d, high, best)
		}
		checkNoBetterBox(t, n, w, d, best)
	}
}

// checkNoBetterBox checks that each other box of as many cakes has more faces, or as many and greater sides.
func checkNoBetterBox(t *testing.T, n int, bestW int, bestD int, best int) {
	for w := 1; w <= impl.MaxSide; w++ {
		for d := 1; d <= impl.MaxSide; d++ {
			if n%(w*d) != 0 || n/(w*d) > impl.MaxHigh {
				continue
			}
			faces := impl.FacesOf(impl.FillHouse(w, d, n))
			isBefore := w < bestW || w == bestW && d < bestD
			if faces < best || faces == best && isBefore {
				t.Fatalf("BestBox(%d) = %d, %d, but %d, %d is better", n, bestW, bestD, w, d)
			}
		}
	}
}

// checkNoBox checks that no cakes fill whole layers of a house.
func checkNoBox(t *testing.T, n int) {
	checkBox(t, n, 0, 0, 0)
	for w := 1; w <= impl.MaxSide; w++ {
		for d := 1; d <= impl.MaxSide; d++ {
			if n%(w*d) == 0 && n/(w*d) <= impl.MaxHigh {
				t.Fatalf("BestBox(%d) is none, but %d, %d is one", n, w, d)
			}
		}
	}
}

func TestPromise61AirMeltsCakes(t *testing.T) {
	for _, h := range manyHeaps() {
		left := impl.MeltDay(h)
		if want := meltedByLayers(h); !sameGrid(left, want) {
			t.Fatalf("MeltDay(%v) = %v, not %v", h, left, want)
		}
		gone := impl.CakesIn(h) - impl.CakesIn(left)
		if want := (impl.FacesOf(h) + impl.Melt - 1) / impl.Melt; gone != want && (gone > want || impl.CakesIn(left) > 0) {
			t.Fatalf("MeltDay(%v) = %v: %d cakes are gone, not %d", h, left, gone, want)
		}
		for y := range h {
			for x := range h[y] {
				if left[y][x] > h[y][x] {
					t.Fatalf("MeltDay(%v) = %v", h, left)
				}
			}
		}
	}
}

func TestPromise62DaysFollowEachOther(t *testing.T) {
	for _, h := range manyHeaps() {
		if got := impl.MeltDays(h, 0); !sameGrid(got, h) {
			t.Fatalf("MeltDays(%v, 0) = %v", h, got)
		}
		before := h
		for days := 1; days <= daysToTry(h); days++ {
			got := impl.MeltDays(h, days)
			if want := impl.MeltDay(before); !sameGrid(got, want) {
				t.Fatalf("MeltDays(%v, %d) = %v, not %v", h, days, got, want)
			}
			before = got
		}
	}
}

// daysToTry returns all days for a large heap, and as many as it lasts, and some more, for a small one.
func daysToTry(h [][]int) int {
	if countCells(h) > 9 {
		return impl.MaxDays
	}
	return daysByDays(h, 1) + 3
}

func TestPromise63EnoughIsLeftForSoManyDays(t *testing.T) {
	for _, h := range manyHeaps() {
		cakes := impl.CakesIn(h)
		step := 1 + cakes/40
		for keep := -1; keep <= cakes+1; keep += step {
			checkDaysLeft(t, h, keep)
		}
		for _, keep := range []int{leastInt, cakes - 1, cakes, cakes + 1, greatestInt} {
			checkDaysLeft(t, h, keep)
		}
	}
}

// checkDaysLeft checks that enough cakes are left after so many days, and not after one day more.
func checkDaysLeft(t *testing.T, h [][]int, keep int) {
	days := impl.DaysLeft(h, keep)
	if want := daysByDays(h, keep); days != want {
		t.Fatalf("DaysLeft(%v, %d) = %d, not %d", h, keep, days, want)
	}
	if days >= 0 && impl.CakesIn(impl.MeltDays(h, days)) < keep {
		t.Fatalf("DaysLeft(%v, %d) = %d, but too few are left", h, keep, days)
	}
	if days < impl.MaxDays && impl.CakesIn(impl.MeltDays(h, days+1)) >= keep {
		t.Fatalf("DaysLeft(%v, %d) = %d, but enough are left after one day more", h, keep, days)
	}
}

func TestPromise64GoodBoxesLastLonger(t *testing.T) {
	for n := 1; n <= impl.MaxSide*impl.MaxHigh; n++ {
		w, d, high := impl.BestBox(n)
		if high == 0 {
			continue
		}
		fromBox := goneOnFirstDay(impl.FillHouse(w, d, n))
		for long := 1; long <= impl.MaxSide; long++ {
			if n%long != 0 || n/long > impl.MaxHigh {
				continue
			}
			row := goneOnFirstDay(impl.FillHouse(long, 1, n))
			column := goneOnFirstDay(impl.FillHouse(1, long, n))
			if fromBox > row || row != column {
				t.Errorf("%d cakes are gone from the best box of %d, %d from a row of %d, %d from a column", fromBox, n, row, long, column)
			}
		}
	}
}

// goneOnFirstDay returns how many cakes of a heap melt on the first day.
func goneOnFirstDay(h [][]int) int {
	return impl.CakesIn(h) - impl.CakesIn(impl.MeltDay(h))
}
