package tests

import (
	"testing"

	"loop.example/iceharvest/impl"
)

func TestHeapConstants(t *testing.T) {
	if impl.MaxHigh != 12 || impl.MaxDays != 60 || impl.Melt != 10 {
		t.Error("MaxHigh, MaxDays or Melt")
	}
}

func TestValidHeapEdges(t *testing.T) {
	for _, h := range [][][]int{
		{{0}}, {{12}}, {{0, 12}}, {{12}, {0}}, stairs(),
		evenGrid(1, 9, 12), evenGrid(9, 1, 12), evenGrid(9, 9, 0), evenGrid(9, 9, 12),
	} {
		if !impl.ValidHeap(h) {
			t.Errorf("ValidHeap(%v) is false", h)
		}
	}
	for _, h := range badHeaps() {
		if impl.ValidHeap(h) {
			t.Errorf("ValidHeap(%v) is true", h)
		}
	}
}

func TestValidHeapLooksAtEachCell(t *testing.T) {
	for cell := 0; cell < 81; cell++ {
		for _, high := range []int{-1, impl.MaxHigh + 1} {
			h := evenGrid(impl.MaxSide, impl.MaxSide, 5)
			h[cell/9][cell%9] = high
			if impl.ValidHeap(h) {
				t.Errorf("ValidHeap is true with a height of %d at %d", high, cell)
			}
			checkNoHeap(t, h)
		}
	}
}

func TestValidHeapLooksAtEachRow(t *testing.T) {
	for y := 0; y < impl.MaxSide; y++ {
		for _, columns := range []int{0, 4, 6, 9, 10} {
			h := evenGrid(impl.MaxSide, 5, 5)
			h[y] = repeated(5, columns)
			if impl.ValidHeap(h) {
				t.Errorf("ValidHeap(%v) is true", h)
			}
			checkNoHeap(t, h)
		}
	}
}

func TestCakesAndFacesEdges(t *testing.T) {
	checkHeap(t, [][]int{{0}}, 0, 0)
	checkHeap(t, [][]int{{1}}, 1, 5)
	checkHeap(t, [][]int{{2}}, 2, 9)
	checkHeap(t, [][]int{{12}}, 12, 49)
	checkHeap(t, [][]int{{0, 0, 0}}, 0, 0)
	checkHeap(t, [][]int{{0, 0, 1}}, 1, 5)
	checkHeap(t, [][]int{{1, 0, 1}}, 2, 10)
	checkHeap(t, [][]int{{1}, {1}}, 2, 8)
	checkHeap(t, [][]int{{1, 0}, {0, 1}}, 2, 10)
	checkHeap(t, [][]int{{12, 12}}, 24, 74)
	checkHeap(t, [][]int{{12, 0}}, 12, 49)
	checkHeap(t, [][]int{{12, 11}}, 23, 72)
	checkHeap(t, [][]int{{11, 12}}, 23, 72)
	checkHeap(t, [][]int{{11}, {12}}, 23, 72)
	checkHeap(t, stairs(), 4, 15)
	checkHeap(t, [][]int{{1, 2, 3, 4, 5, 6, 7, 8, 9}}, 45, 117)
}

func TestCakesAndFacesOfHolesAndTowers(t *testing.T) {
	// The air reaches the four walls of the hole, too, but not its ground.
	checkHeap(t, ringHeap(), 24, 8+36+12)
	checkHeap(t, [][]int{{3, 3, 3}, {3, 1, 3}, {3, 3, 3}}, 25, 9+36+8)
	checkHeap(t, [][]int{{3, 3, 3}, {3, 3, 3}, {3, 3, 3}}, 27, 9+36)
	checkHeap(t, towerHeap(), 20, 9+12+44)
	checkHeap(t, [][]int{{0, 0, 0}, {0, 12, 0}, {0, 0, 0}}, 12, 49)
	checkHeap(t, evenGrid(1, 9, 1), 9, 9+20)
	checkHeap(t, evenGrid(9, 1, 12), 108, 9+240)
	checkHeap(t, evenGrid(9, 9, 0), 0, 0)
	checkHeap(t, evenGrid(9, 9, 1), 81, 81+36)
	checkHeap(t, evenGrid(9, 9, 12), 972, 81+432)
	holed := evenGrid(9, 9, 12)
	holed[4][4] = 0
	checkHeap(t, holed, 960, 80+432+48)
	alone := evenGrid(9, 9, 0)
	alone[8][8] = 1
	checkHeap(t, alone, 1, 5)
}

func checkHeap(t *testing.T, h [][]int, cakes int, faces int) {
	if got := impl.CakesIn(h); got != cakes {
		t.Errorf("CakesIn(%v) = %d, not %d", h, got, cakes)
	}
	if got := impl.FacesOf(h); got != faces {
		t.Errorf("FacesOf(%v) = %d, not %d", h, got, faces)
	}
}

func TestAddCakeEdges(t *testing.T) {
	checkAdded(t, [][]int{{0}}, 0, [][]int{{1}})
	checkAdded(t, [][]int{{10}}, 0, [][]int{{11}})
	checkAdded(t, [][]int{{11}}, 0, [][]int{{12}})
	checkAdded(t, [][]int{{12}}, 0, nil)
	checkAdded(t, [][]int{{12, 11}}, 0, nil)
	checkAdded(t, [][]int{{12, 11}}, 1, [][]int{{12, 12}})
	checkAdded(t, [][]int{{11}, {12}}, 1, nil)
	checkAdded(t, [][]int{{11}, {12}}, 0, [][]int{{12}, {12}})
	checkAdded(t, stairs(), 2, [][]int{{2, 1}, {1, 1}})
	checkAdded(t, stairs(), 3, [][]int{{2, 1}, {0, 2}})
	checkAdded(t, [][]int{{1, 2, 3}, {4, 5, 6}}, 2, [][]int{{1, 2, 4}, {4, 5, 6}})
	checkAdded(t, [][]int{{1, 2, 3}, {4, 5, 6}}, 3, [][]int{{1, 2, 3}, {5, 5, 6}})
	checkAdded(t, [][]int{{1, 2}, {3, 4}, {5, 6}}, 2, [][]int{{1, 2}, {4, 4}, {5, 6}})
	checkAdded(t, [][]int{{1, 2}, {3, 4}, {5, 6}}, 5, [][]int{{1, 2}, {3, 4}, {5, 7}})
	for cell := 0; cell < 81; cell++ {
		checkAdded(t, evenGrid(9, 9, 12), cell, nil)
		h := evenGrid(9, 9, 11)
		h[cell/9][cell%9] = 12
		checkAdded(t, evenGrid(9, 9, 11), cell, h)
	}
}

func checkAdded(t *testing.T, h [][]int, cell int, want [][]int) {
	if got := impl.AddCake(h, cell); !sameGrid(got, want) {
		t.Errorf("AddCake(%v, %d) = %v, not %v", h, cell, got, want)
	}
}

func TestTakeCakeEdges(t *testing.T) {
	checkTaken(t, [][]int{{0}}, 0, nil)
	checkTaken(t, [][]int{{1}}, 0, [][]int{{0}})
	checkTaken(t, [][]int{{2}}, 0, [][]int{{1}})
	checkTaken(t, [][]int{{12}}, 0, [][]int{{11}})
	checkTaken(t, [][]int{{0, 1}}, 0, nil)
	checkTaken(t, [][]int{{0, 1}}, 1, [][]int{{0, 0}})
	checkTaken(t, [][]int{{1}, {0}}, 1, nil)
	checkTaken(t, stairs(), 0, [][]int{{1, 1}, {0, 1}})
	checkTaken(t, stairs(), 2, nil)
	checkTaken(t, stairs(), 3, [][]int{{2, 1}, {0, 0}})
	checkTaken(t, [][]int{{1, 2, 3}, {4, 5, 6}}, 2, [][]int{{1, 2, 2}, {4, 5, 6}})
	checkTaken(t, [][]int{{1, 2, 3}, {4, 5, 6}}, 3, [][]int{{1, 2, 3}, {3, 5, 6}})
	checkTaken(t, [][]int{{1, 2}, {3, 4}, {5, 6}}, 2, [][]int{{1, 2}, {2, 4}, {5, 6}})
	// A cake need not be the highest one to be taken.
	checkTaken(t, towerHeap(), 8, [][]int{{1, 1, 1}, {1, 12, 1}, {1, 1, 0}})
	for cell := 0; cell < 81; cell++ {
		checkTaken(t, evenGrid(9, 9, 0), cell, nil)
		h := evenGrid(9, 9, 1)
		h[cell/9][cell%9] = 0
		checkTaken(t, evenGrid(9, 9, 1), cell, h)
	}
}

func checkTaken(t *testing.T, h [][]int, cell int, want [][]int) {
	if got := impl.TakeCake(h, cell); !sameGrid(got, want) {
		t.Errorf("TakeCake(%v, %d) = %v, not %v", h, cell, got, want)
	}
}

func TestCakesAtOtherCells(t *testing.T) {
	for _, h := range sampleHeaps() {
		for _, cell := range badCells(h) {
			checkAdded(t, h, cell, nil)
			checkTaken(t, h, cell, nil)
		}
	}
}

func TestFillHouseEdges(t *testing.T) {
	checkFilled(t, 1, 1, 0, [][]int{{0}})
	checkFilled(t, 1, 1, 1, [][]int{{1}})
	checkFilled(t, 1, 1, 12, [][]int{{12}})
	checkFilled(t, 1, 1, 13, nil)
	checkFilled(t, 1, 1, -1, nil)
	checkFilled(t, 3, 2, 0, [][]int{{0, 0, 0}, {0, 0, 0}})
	checkFilled(t, 3, 2, 1, [][]int{{1, 0, 0}, {0, 0, 0}})
	checkFilled(t, 3, 2, 4, [][]int{{1, 1, 1}, {1, 0, 0}})
	checkFilled(t, 3, 2, 5, [][]int{{1, 1, 1}, {1, 1, 0}})
	// One layer just full, and one cake more.
	checkFilled(t, 3, 2, 6, [][]int{{1, 1, 1}, {1, 1, 1}})
	checkFilled(t, 3, 2, 7, [][]int{{2, 1, 1}, {1, 1, 1}})
	checkFilled(t, 2, 3, 9, [][]int{{2, 2}, {2, 1}, {1, 1}})
	checkFilled(t, 3, 2, 71, [][]int{{12, 12, 12}, {12, 12, 11}})
	checkFilled(t, 3, 2, 72, [][]int{{12, 12, 12}, {12, 12, 12}})
	checkFilled(t, 3, 2, 73, nil)
	checkFilled(t, 9, 1, 10, [][]int{{2, 1, 1, 1, 1, 1, 1, 1, 1}})
	checkFilled(t, 1, 9, 2, [][]int{{1}, {1}, {0}, {0}, {0}, {0}, {0}, {0}, {0}})
	checkFilled(t, 9, 9, 81, evenGrid(9, 9, 1))
	checkFilled(t, 9, 9, 972, evenGrid(9, 9, 12))
	checkFilled(t, 9, 9, 973, nil)
}

func checkFilled(t *testing.T, w int, d int, n int, want [][]int) {
	if got := impl.FillHouse(w, d, n); !sameGrid(got, want) {
		t.Errorf("FillHouse(%d, %d, %d) = %v, not %v", w, d, n, got, want)
	}
}

func TestFillHouseOfOtherArguments(t *testing.T) {
	for side := 1; side <= impl.MaxSide; side++ {
		for _, bad := range badHouseSides() {
			for _, n := range []int{0, 1, 12, greatestInt, leastInt} {
				checkFilled(t, bad, side, n, nil)
				checkFilled(t, side, bad, n, nil)
				checkFilled(t, bad, bad, n, nil)
			}
		}
		for other := 1; other <= impl.MaxSide; other++ {
			for _, n := range []int{-1, -side * other, side*other*impl.MaxHigh + 1, greatestInt, leastInt} {
				checkFilled(t, side, other, n, nil)
			}
		}
	}
}

func TestBestBoxEdges(t *testing.T) {
	checkBox(t, 1, 1, 1, 1)
	checkBox(t, 2, 1, 2, 1)
	checkBox(t, 3, 1, 3, 1)
	checkBox(t, 7, 1, 7, 1)
	checkBox(t, 11, 1, 1, 11)
	checkBox(t, 24, 3, 4, 2)
	checkBox(t, 81, 3, 9, 3)
	checkBox(t, 971, 0, 0, 0)
	checkBox(t, 972, 9, 9, 12)
	checkBox(t, 973, 0, 0, 0)
	checkBox(t, 891, 9, 9, 11)
	checkBox(t, 864, 8, 9, 12)
	// Boxes with as many faces that are not the same when they are turned.
	checkBox(t, 8, 2, 2, 2)
	checkBox(t, 12, 2, 3, 2)
	checkBox(t, 36, 3, 4, 3)
	checkBox(t, 64, 4, 4, 4)
	checkBox(t, 84, 4, 7, 3)
	checkBox(t, 96, 4, 6, 4)
	checkBox(t, 120, 5, 6, 4)
	checkBox(t, 216, 6, 9, 4)
}

func TestBestBoxThatIsNotThere(t *testing.T) {
	// Primes, twice a prime, and numbers of which each box is too high or too wide.
	for _, n := range []int{13, 17, 97, 26, 39, 121, 143, 144*9 + 1, 1944, 972 * 972, greatestInt} {
		checkBox(t, n, 0, 0, 0)
	}
	for _, n := range []int{0, -1, -7, -24, -972, leastInt, leastInt + 1, -greatestInt} {
		checkBox(t, n, 0, 0, 0)
	}
	for n := 973; n < 3000; n++ {
		checkBox(t, n, 0, 0, 0)
	}
}

func checkBox(t *testing.T, n int, wantW int, wantD int, wantHigh int) {
	if w, d, high := impl.BestBox(n); w != wantW || d != wantD || high != wantHigh {
		t.Errorf("BestBox(%d) = %d, %d, %d, not %d, %d, %d", n, w, d, high, wantW, wantD, wantHigh)
	}
}

func TestMeltDayEdges(t *testing.T) {
	checkMelted(t, [][]int{{0}}, [][]int{{0}})
	checkMelted(t, [][]int{{0, 0}, {0, 0}}, [][]int{{0, 0}, {0, 0}})
	// As many cakes melt as there are.
	checkMelted(t, [][]int{{1}}, [][]int{{0}})
	checkMelted(t, [][]int{{0, 1, 0}}, [][]int{{0, 0, 0}})
	checkMelted(t, [][]int{{0}, {0}, {1}}, [][]int{{0}, {0}, {0}})
	checkMelted(t, [][]int{{2}}, [][]int{{1}})
	checkMelted(t, [][]int{{12}}, [][]int{{7}})
	checkMelted(t, stairs(), [][]int{{1, 1}, {0, 0}})
	checkMelted(t, [][]int{{2, 1}, {1, 2}}, [][]int{{1, 1}, {1, 1}})
	checkMelted(t, towerHeap(), [][]int{{1, 1, 1}, {1, 5, 1}, {1, 1, 1}})
	checkMelted(t, ringHeap(), [][]int{{3, 3, 2}, {2, 0, 2}, {2, 2, 2}})
}

func TestMeltDayOfJustSoManyFaces(t *testing.T) {
	// 10 and 20 faces are just a multiple of Melt, 11, 21 and 41 are one more, 9 and 49 one less.
	checkMelted(t, [][]int{{1, 0, 1}}, [][]int{{1, 0, 0}})
	checkMelted(t, [][]int{{3, 3}}, [][]int{{2, 2}})
	checkMelted(t, [][]int{{1, 1, 1}}, [][]int{{1, 0, 0}})
	checkMelted(t, [][]int{{5}}, [][]int{{2}})
	checkMelted(t, [][]int{{10}}, [][]int{{5}})
	for _, h := range manyHeaps() {
		faces := facesByCakes(h)
		gone := faces / 10
		if faces%10 > 0 {
			gone++
		}
		if got := sumOfHeap(h) - sumOfHeap(impl.MeltDay(h)); got != gone {
			t.Errorf("%d cakes of %v with %d faces melt, not %d", got, h, faces, gone)
		}
	}
}

func TestMeltDayOfEqualHeights(t *testing.T) {
	// Of several highest places the last one loses its cake first.
	checkMelted(t, [][]int{{1, 1}}, [][]int{{1, 0}})
	checkMelted(t, [][]int{{1}, {1}}, [][]int{{1}, {0}})
	checkMelted(t, [][]int{{1, 1}, {1, 1}}, [][]int{{1, 1}, {0, 0}})
	checkMelted(t, [][]int{{2, 2, 2}}, [][]int{{2, 1, 1}})
	checkMelted(t, [][]int{{2, 0, 2}}, [][]int{{1, 0, 1}})
	// A layer goes, and a part of the next one.
	checkMelted(t, [][]int{{12, 0, 12}}, [][]int{{7, 0, 7}})
	checkMelted(t, [][]int{{0, 12, 11}}, [][]int{{0, 8, 7}})
	checkMelted(t, evenGrid(9, 9, 1), append(evenGrid(7, 9, 1), []int{1, 1, 1, 1, 1, 1, 0, 0, 0}, repeated(0, 9)))
	full := evenGrid(9, 9, 12)
	for cell := 81 - 52; cell < 81; cell++ {
		full[cell/9][cell%9] = 11
	}
	checkMelted(t, evenGrid(9, 9, 12), full)
}

func checkMelted(t *testing.T, h [][]int, want [][]int) {
	if got := impl.MeltDay(h); !sameGrid(got, want) {
		t.Errorf("MeltDay(%v) = %v, not %v", h, got, want)
	}
}

func TestMeltDaysEdges(t *testing.T) {
	for _, h := range sampleHeaps() {
		checkMeltedDays(t, h, 0, h)
		checkMeltedDays(t, h, 1, meltedByLayers(h))
		checkMeltedDays(t, h, 2, meltedByLayers(meltedByLayers(h)))
		// No heap lasts so long.
		checkMeltedDays(t, h, impl.MaxDays-1, evenGrid(len(h), len(h[0]), 0))
		checkMeltedDays(t, h, impl.MaxDays, evenGrid(len(h), len(h[0]), 0))
		for _, days := range badDays() {
			checkMeltedDays(t, h, days, nil)
		}
	}
	checkMeltedDays(t, [][]int{{12}}, 1, [][]int{{7}})
	checkMeltedDays(t, [][]int{{12}}, 2, [][]int{{4}})
	checkMeltedDays(t, [][]int{{12}}, 3, [][]int{{2}})
	checkMeltedDays(t, [][]int{{12}}, 4, [][]int{{1}})
	checkMeltedDays(t, [][]int{{12}}, 5, [][]int{{0}})
	checkMeltedDays(t, stairs(), 2, [][]int{{1, 0}, {0, 0}})
	checkMeltedDays(t, stairs(), 3, [][]int{{0, 0}, {0, 0}})
}

func checkMeltedDays(t *testing.T, h [][]int, days int, want [][]int) {
	if got := impl.MeltDays(h, days); !sameGrid(got, want) {
		t.Errorf("MeltDays(%v, %d) = %v, not %v", h, days, got, want)
	}
}

func TestDaysLeftEdges(t *testing.T) {
	for _, c := range [][2]int{
		{leastInt, 60}, {-1, 60}, {0, 60}, {1, 4}, {2, 3}, {3, 2}, {4, 2}, {5, 1}, {7, 1}, {8, 0}, {11, 0}, {12, 0}, {13, -1}, {greatestInt, -1},
	} {
		checkDays(t, [][]int{{12}}, c[0], c[1])
	}
	for _, c := range [][2]int{{leastInt, 60}, {-1, 60}, {0, 60}, {1, -1}, {2, -1}, {greatestInt, -1}} {
		checkDays(t, [][]int{{0}}, c[0], c[1])
		checkDays(t, evenGrid(9, 9, 0), c[0], c[1])
	}
	for _, c := range [][2]int{{-5, 60}, {0, 60}, {1, 2}, {2, 1}, {3, 0}, {4, 0}, {5, -1}} {
		checkDays(t, stairs(), c[0], c[1])
	}
	for _, c := range [][2]int{{0, 60}, {1, 44}, {920, 1}, {921, 0}, {971, 0}, {972, 0}, {973, -1}} {
		checkDays(t, evenGrid(9, 9, 12), c[0], c[1])
	}
}

func TestDaysLeftOfAllCakes(t *testing.T) {
	for _, h := range sampleHeaps() {
		cakes := sumOfHeap(h)
		checkDays(t, h, cakes+1, -1)
		checkDays(t, h, greatestInt, -1)
		checkDays(t, h, 0, 60)
		checkDays(t, h, leastInt, 60)
		if cakes > 0 {
			// Some cake melts on the first day.
			checkDays(t, h, cakes, 0)
		}
	}
}

func checkDays(t *testing.T, h [][]int, keep int, want int) {
	if got := impl.DaysLeft(h, keep); got != want {
		t.Errorf("DaysLeft(%v, %d) = %d, not %d", h, keep, got, want)
	}
}

func TestHeapFunctionsOfOtherHeaps(t *testing.T) {
	for _, h := range badHeaps() {
		checkNoHeap(t, h)
	}
}

// checkNoHeap checks what the functions return for a heap that is not valid.
func checkNoHeap(t *testing.T, h [][]int) {
	checkHeap(t, h, -1, -1)
	for _, cell := range append(badCells(h), 0, 1, 80) {
		checkAdded(t, h, cell, nil)
		checkTaken(t, h, cell, nil)
	}
	checkMelted(t, h, nil)
	for _, days := range append(badDays(), 0, 1, impl.MaxDays) {
		checkMeltedDays(t, h, days, nil)
	}
	for _, keep := range []int{leastInt, -2, -1, 0, 1, greatestInt} {
		checkDays(t, h, keep, -1)
	}
}
