package tests

import (
	"testing"

	"loop.example/iceharvest/impl"
)

func TestPondConstants(t *testing.T) {
	if impl.MaxSide != 9 || impl.Risk != 200 {
		t.Error("MaxSide or Risk")
	}
}

func TestValidPondEdges(t *testing.T) {
	for _, p := range [][][]int{
		{{0}}, {{impl.MaxThick}}, {{0, impl.MaxThick}}, {{impl.MaxThick}, {0}},
		evenGrid(1, impl.MaxSide, 50), evenGrid(impl.MaxSide, 1, 50), evenGrid(impl.MaxSide, impl.MaxSide, impl.MaxThick),
	} {
		if !impl.ValidPond(p) {
			t.Errorf("ValidPond(%v) is false", p)
		}
	}
	for _, p := range badPonds() {
		if impl.ValidPond(p) {
			t.Errorf("ValidPond(%v) is true", p)
		}
	}
}

func TestSafeCellsEdges(t *testing.T) {
	p := [][]int{{0, 1, 49}, {50, 51, impl.MaxThick}}
	checkSafe(t, p, 2500, false, false, false, true, true, true)
	checkSafe(t, p, 2501, false, false, false, false, true, true)
	checkSafe(t, p, 2499, false, false, false, true, true, true)
	checkSafe(t, p, 2401, false, false, true, true, true, true)
	checkSafe(t, p, 1, false, true, true, true, true, true)
	checkSafe(t, p, 2, false, false, true, true, true, true)
	checkSafe(t, p, 0, true, true, true, true, true, true)
	checkSafe(t, p, -1, true, true, true, true, true, true)
	checkSafe(t, p, leastInt, true, true, true, true, true, true)
	checkSafe(t, p, impl.MaxLoad, false, false, false, false, false, true)
	checkSafe(t, p, impl.MaxMass, false, false, false, false, false, true)
	checkSafe(t, p, impl.MaxMass+1, false, false, false, false, false, false)
	checkSafe(t, p, greatestInt, false, false, false, false, false, false)
	checkSafe(t, [][]int{{948, 949}}, impl.MaxLoad, false, true)
}

func checkSafe(t *testing.T, p [][]int, load int, want ...bool) {
	got := impl.SafeCells(p, load)
	same := len(got) == len(want)
	for i := 0; same && i < len(got); i++ {
		same = got[i] == want[i]
	}
	if !same {
		t.Errorf("SafeCells(%v, %d) = %v, not %v", p, load, got, want)
	}
}

func TestFieldsEdges(t *testing.T) {
	checkFields(t, [][]int{{50}}, 2500, []int{0}, []int{1})
	checkFields(t, [][]int{{50}}, 2501, []int{-1}, nil)
	checkFields(t, [][]int{{0}}, 0, []int{0}, []int{1})
	checkFields(t, [][]int{{0}}, 1, []int{-1}, nil)
	checkFields(t, [][]int{{0, 0}, {0, 0}}, -1, []int{0, 0, 0, 0}, []int{4})
	checkFields(t, [][]int{{60, 0, 60, 60, 0, 0, 60}}, 3600, []int{0, -1, 1, 1, -1, -1, 2}, []int{1, 2, 1})
	checkFields(t, [][]int{{60}, {0}, {60}, {60}}, 3600, []int{0, -1, 1, 1}, []int{1, 2})
	checkFields(t, [][]int{{60, 0}, {0, 60}}, 1, []int{0, -1, -1, 1}, []int{1, 1})
	checkFields(t, [][]int{{0, 60}, {60, 0}}, 1, []int{-1, 0, 1, -1}, []int{1, 1})
	// The end of a row is not beside the begin of the next one.
	checkFields(t, [][]int{{0, 0, 60}, {60, 0, 0}}, 1, []int{-1, -1, 0, 1, -1, -1}, []int{1, 1})
	// The first field goes on below, right and left of the second one.
	checkFields(t, [][]int{{60, 0, 60}, {60, 60, 60}, {0, 0, 0}}, 1, []int{0, -1, 0, 0, 0, 0, -1, -1, -1}, []int{5})
	checkFields(t, [][]int{{0, 60, 0, 60}, {60, 0, 60, 60}}, 1, []int{-1, 0, -1, 1, 2, -1, 1, 1}, []int{1, 3, 1})
	checkFields(t, onePond(), 2500, []int{0, 0, -1, -1, 0, 0, 1, -1, 0}, []int{5, 1})
	checkFields(t, ringPond(), 1, []int{0, 0, 0, 0, -1, 0, 0, 0, 0}, []int{8})
}

func checkFields(t *testing.T, p [][]int, load int, wantFields []int, wantSizes []int) {
	if got := impl.FieldsOf(p, load); !sameInts(got, wantFields) {
		t.Errorf("FieldsOf(%v, %d) = %v, not %v", p, load, got, wantFields)
	}
	if got := impl.FieldSizes(p, load); !sameInts(got, wantSizes) {
		t.Errorf("FieldSizes(%v, %d) = %v, not %v", p, load, got, wantSizes)
	}
}

func TestFieldsOfTheLargestPonds(t *testing.T) {
	cells := impl.MaxSide * impl.MaxSide
	full := evenGrid(impl.MaxSide, impl.MaxSide, impl.MaxThick)
	checkFields(t, full, impl.MaxMass, repeated(0, cells), []int{81})
	checkFields(t, full, impl.MaxMass+1, repeated(-1, cells), nil)
	checkFields(t, evenGrid(impl.MaxSide, impl.MaxSide, 0), 1, repeated(-1, cells), nil)
	if got := impl.FieldSizes(chessPond(impl.MaxSide, impl.MaxSide), 3600); !sameInts(got, repeated(1, 41)) {
		t.Errorf("FieldSizes of cells apart = %v", got)
	}
}

func TestNarrowsInARow(t *testing.T) {
	checkNarrowsAre(t, [][]int{{9}}, 1)
	checkNarrowsAre(t, [][]int{{9, 9}}, 1)
	checkNarrowsAre(t, [][]int{{9, 9, 9}}, 1, 1)
	checkNarrowsAre(t, [][]int{{9, 9, 9}}, 81, 1)
	checkNarrowsAre(t, [][]int{{9, 9, 9}}, 82)
	checkNarrowsAre(t, [][]int{{9, 8, 9}}, 81)
	checkNarrowsAre(t, [][]int{{0, 0, 0}}, 0, 1)
	checkNarrowsAre(t, [][]int{{0, 0, 0}}, -1, 1)
	checkNarrowsAre(t, [][]int{{0, 0, 0}}, 1)
	checkNarrowsAre(t, [][]int{{9}, {9}, {9}, {9}}, 1, 1, 2)
	checkNarrowsAre(t, evenGrid(1, impl.MaxSide, 9), 1, 1, 2, 3, 4, 5, 6, 7)
	checkNarrowsAre(t, [][]int{{9, 9, 9, 0, 9, 9, 9, 0, 9}}, 1, 1, 5)
}

func TestNarrowsInRings(t *testing.T) {
	checkNarrowsAre(t, [][]int{{9, 9}, {9, 9}}, 1)
	checkNarrowsAre(t, ringPond(), 1)
	checkNarrowsAre(t, twoRingsPond(), 1, 12)
	// Rings that share a side have no narrow, and a tail has one where it begins.
	checkNarrowsAre(t, [][]int{{9, 9, 9, 9, 9}, {9, 0, 9, 0, 9}, {9, 9, 9, 9, 9}}, 1)
	checkNarrowsAre(t, [][]int{{9, 9, 9, 9}, {9, 0, 9, 0}, {9, 9, 9, 0}}, 1, 2)
	// A cell that holds three parts together, and one that holds four.
	checkNarrowsAre(t, [][]int{{9, 9, 9}, {0, 9, 0}}, 1, 1)
	checkNarrowsAre(t, [][]int{{0, 9, 0}, {9, 9, 9}, {0, 9, 0}}, 1, 4)
	// A ring that is open is a row.
	checkNarrowsAre(t, [][]int{{9, 9, 9}, {9, 0, 0}, {9, 9, 9}}, 1, 0, 1, 3, 6, 7)
	checkNarrowsAre(t, onePond(), 2500, 1, 4, 5)
	checkNarrowsAre(t, chessPond(impl.MaxSide, impl.MaxSide), 1)
	checkNarrowsAre(t, evenGrid(impl.MaxSide, impl.MaxSide, 9), 1)
}

func checkNarrowsAre(t *testing.T, p [][]int, load int, want ...int) {
	if got := impl.NarrowsOf(p, load); !sameInts(got, want) {
		t.Errorf("NarrowsOf(%v, %d) = %v, not %v", p, load, got, want)
	}
}

func TestRisksOfCells(t *testing.T) {
	for _, c := range [][2]int{
		{0, 201}, {1, 101}, {2, 67}, {9, 21}, {49, 5}, {50, 4}, {60, 4}, {65, 4}, {66, 3},
		{98, 3}, {99, 3}, {100, 2}, {198, 2}, {199, 2}, {200, 1}, {impl.MaxThick, 1},
	} {
		checkRisks(t, [][]int{{c[0]}}, 0, 0, c[1])
	}
}

func TestRisksFromEdges(t *testing.T) {
	checkRisks(t, onePond(), 2500, 0, 4, 8, -1, -1, 12, 16, -1, -1, 19)
	checkRisks(t, onePond(), 2500, 6, -1, -1, -1, -1, -1, -1, 4, -1, -1)
	checkRisks(t, onePond(), 2500, 2, repeated(-1, 9)...)
	checkRisks(t, onePond(), 6401, 0, repeated(-1, 9)...)
	checkRisks(t, [][]int{{50}}, 2500, 0, 4)
	checkRisks(t, [][]int{{50}}, 2501, 0, -1)
	checkRisks(t, [][]int{{0, 0, 0}}, 0, 1, 402, 201, 402)
	checkRisks(t, [][]int{{0, 0, 0}}, leastInt, 2, 603, 402, 201)
	// The way around is safer than the way straight on, but only as far as it goes.
	checkRisks(t, [][]int{{999, 0, 999}, {999, 999, 999}}, 0, 0, 1, 202, 5, 2, 3, 4)
	checkRisks(t, [][]int{{999, 0, 999}, {999, 999, 999}}, 1, 0, 1, -1, 5, 2, 3, 4)
	checkRisks(t, [][]int{{999, 40, 999}, {999, 999, 999}}, 1, 0, 1, 6, 5, 2, 3, 4)
	checkRisks(t, [][]int{{999, 99, 999}, {999, 999, 999}}, 1, 0, 1, 4, 5, 2, 3, 4)
	checkRisks(t, [][]int{{999, 100, 999}, {999, 999, 999}}, 1, 0, 1, 3, 4, 2, 3, 4)
}

func checkRisks(t *testing.T, p [][]int, load int, from int, want ...int) {
	if got := impl.RisksFrom(p, load, from); !sameInts(got, want) {
		t.Errorf("RisksFrom(%v, %d, %d) = %v, not %v", p, load, from, got, want)
	}
}

func TestWayToEdges(t *testing.T) {
	checkWayIs(t, onePond(), 2500, 0, 8, 0, 1, 4, 5, 8)
	checkWayIs(t, onePond(), 2500, 8, 0, 8, 5, 4, 1, 0)
	checkWayIs(t, onePond(), 2500, 0, 6)
	checkWayIs(t, onePond(), 2500, 6, 0)
	// From a cell to itself, whether it bears the load or not.
	checkWayIs(t, onePond(), 2500, 6, 6, 6)
	checkWayIs(t, onePond(), 2500, 0, 0, 0)
	checkWayIs(t, onePond(), 2500, 2, 2)
	checkWayIs(t, onePond(), 900, 2, 2, 2)
	checkWayIs(t, [][]int{{0}}, 0, 0, 0, 0)
	checkWayIs(t, [][]int{{0}}, 1, 0, 0)
	// Cells that do not bear the load at one end, and at both.
	checkWayIs(t, onePond(), 2500, 2, 0)
	checkWayIs(t, onePond(), 2500, 0, 2)
	checkWayIs(t, onePond(), 2500, 2, 3)
	checkWayIs(t, onePond(), 901, 2, 5)
	checkWayIs(t, onePond(), 900, 2, 5, 2, 5)
	checkWayIs(t, onePond(), impl.MaxMass+1, 0, 8)
	checkWayIs(t, evenGrid(1, impl.MaxSide, 50), 2500, 7, 2, 7, 6, 5, 4, 3, 2)
}

func TestWayToTakesTheSaferWay(t *testing.T) {
	checkWayIs(t, [][]int{{50, 9}, {50, 50}}, 1, 0, 3, 0, 2, 3)
	checkWayIs(t, [][]int{{999, 0, 999}, {999, 999, 999}}, 0, 0, 2, 0, 3, 4, 5, 2)
	checkWayIs(t, [][]int{{999, 0, 999}, {999, 999, 999}}, 0, 0, 1, 0, 1)
	checkWayIs(t, [][]int{{999, 100, 999}, {999, 999, 999}}, 0, 0, 2, 0, 1, 2)
	// The risks are as great, but fewer cells are not preferred to the cell with the least index.
	checkWayIs(t, [][]int{{999, 66, 999}, {999, 999, 999}}, 0, 0, 2, 0, 1, 2)
	checkWayIs(t, [][]int{{999, 999, 999}, {999, 66, 999}}, 0, 3, 5, 3, 0, 1, 2, 5)
}

func TestWayToOfEqualRisks(t *testing.T) {
	square := evenGrid(3, 3, 50)
	checkWayIs(t, [][]int{{50, 50}, {50, 50}}, 1, 0, 3, 0, 1, 3)
	checkWayIs(t, [][]int{{50, 50}, {50, 50}}, 1, 3, 0, 3, 1, 0)
	checkWayIs(t, square, 1, 0, 8, 0, 1, 2, 5, 8)
	checkWayIs(t, square, 1, 8, 0, 8, 5, 2, 1, 0)
	checkWayIs(t, square, 1, 6, 2, 6, 3, 0, 1, 2)
	checkWayIs(t, square, 1, 2, 6, 2, 1, 0, 3, 6)
	checkWayIs(t, square, 1, 4, 8, 4, 5, 8)
	checkWayIs(t, square, 1, 3, 5, 3, 4, 5)
	checkWayIs(t, ringPond(), 1, 3, 5, 3, 0, 1, 2, 5)
	checkWayIs(t, ringPond(), 1, 1, 7, 1, 0, 3, 6, 7)
	checkWayIs(t, evenGrid(2, 2, 0), -1, 2, 1, 2, 0, 1)
}

func checkWayIs(t *testing.T, p [][]int, load int, from int, to int, want ...int) {
	if got := impl.WayTo(p, load, from, to); !sameInts(got, want) {
		t.Errorf("WayTo(%v, %d, %d, %d) = %v, not %v", p, load, from, to, got, want)
	}
}

func TestWayToGoesBackByTheLeastCells(t *testing.T) {
	for _, p := range samplePonds() {
		for _, load := range []int{0, 81, 2500} {
			for _, from := range someCells(p) {
				risks := impl.RisksFrom(p, load, from)
				for _, to := range someCells(p) {
					want := reversed(wayBack(p, risks, from, to))
					if got := impl.WayTo(p, load, from, to); !sameInts(got, want) {
						t.Fatalf("WayTo(%v, %d, %d, %d) = %v, not %v", p, load, from, to, got, want)
					}
				}
			}
		}
	}
}

// wayBack returns the cells from the last one back to the first one by the risks from there.
func wayBack(p [][]int, risks []int, from int, to int) []int {
	if risks[to] < 0 {
		return nil
	}
	way := []int{to}
	for cell := to; cell != from; cell = way[len(way)-1] {
		for _, before := range cellsNextTo(p, cell) {
			if risks[before] >= 0 && risks[before]+riskOfCell(p, cell) == risks[cell] {
				way = append(way, before)
				break
			}
		}
	}
	return way
}

func TestGreatestLoadEdges(t *testing.T) {
	checkGreatest(t, onePond(), 0, 8, 3600)
	checkGreatest(t, onePond(), 8, 8, 6400)
	checkGreatest(t, onePond(), 2, 8, 900)
	checkGreatest(t, onePond(), 8, 2, 900)
	// Open water is passed without a load.
	checkGreatest(t, onePond(), 0, 6, 0)
	checkGreatest(t, onePond(), 3, 3, 0)
	checkGreatest(t, onePond(), 3, 0, 0)
	checkGreatest(t, [][]int{{0}}, 0, 0, 0)
	checkGreatest(t, [][]int{{60, 0, 60}}, 0, 2, 0)
	checkGreatest(t, [][]int{{60, 1, 60}}, 0, 2, 1)
	// The way with the thicker ice may be the longer one.
	checkGreatest(t, [][]int{{60, 30, 60}, {60, 40, 60}}, 0, 2, 1600)
	checkGreatest(t, [][]int{{60, 30, 60}, {60, 40, 60}}, 0, 1, 900)
	checkGreatest(t, [][]int{{60, 30, 60}, {60, 70, 60}}, 3, 5, 3600)
	checkGreatest(t, twoRingsPond(), 0, 24, 3600)
}

func TestGreatestLoadOfTheThickestIce(t *testing.T) {
	checkGreatest(t, [][]int{{948}}, 0, 0, 898704)
	checkGreatest(t, [][]int{{949}}, 0, 0, impl.MaxLoad)
	checkGreatest(t, [][]int{{impl.MaxThick}}, 0, 0, impl.MaxLoad)
	checkGreatest(t, [][]int{{impl.MaxThick, 949, 950}}, 0, 2, impl.MaxLoad)
	checkGreatest(t, [][]int{{impl.MaxThick, 948, 950}}, 0, 2, 898704)
	checkGreatest(t, evenGrid(impl.MaxSide, impl.MaxSide, impl.MaxThick), 0, 80, impl.MaxLoad)
}

func checkGreatest(t *testing.T, p [][]int, from int, to int, want int) {
	if got := impl.GreatestLoad(p, from, to); got != want {
		t.Errorf("GreatestLoad(%v, %d, %d) = %d, not %d", p, from, to, got, want)
	}
}

func TestGrowPondEdges(t *testing.T) {
	p := [][]int{{50, 0, 1}, {20, 998, impl.MaxThick}}
	checkGrown(t, p, nil, p)
	checkGrown(t, p, []int{}, p)
	checkGrown(t, p, []int{0, 19}, p)
	checkGrown(t, p, []int{-50}, [][]int{{52, 15, 15}, {25, 998, 999}})
	checkGrown(t, p, []int{-impl.MaxTemp}, [][]int{{67, 44, 44}, {48, 999, 999}})
	checkGrown(t, p, []int{40}, [][]int{{48, 0, 0}, {18, 996, 997}})
	checkGrown(t, p, []int{impl.MaxTemp}, [][]int{{30, 0, 0}, {0, 978, 979}})
	checkGrown(t, p, repeated(-impl.MaxTemp, impl.MaxHours), [][]int{{634, 632, 632}, {632, 999, 999}})
	checkGrown(t, p, repeated(20, impl.MaxHours), [][]int{{0, 0, 0}, {0, 798, 799}})
	// The mass between two hours need not be a square.
	checkGrown(t, [][]int{{0}}, []int{-50, -50}, [][]int{{22}})
	checkGrown(t, [][]int{{0}}, []int{-50, -50, 20}, [][]int{{21}})
	full := evenGrid(impl.MaxSide, impl.MaxSide, 0)
	checkGrown(t, full, []int{-1}, evenGrid(impl.MaxSide, impl.MaxSide, 2))
}

func checkGrown(t *testing.T, p [][]int, temps []int, want [][]int) {
	if got := impl.GrowPond(p, temps); !sameGrid(got, want) {
		t.Errorf("GrowPond(%v, %v) = %v, not %v", p, temps, got, want)
	}
}

func TestCutCellEdges(t *testing.T) {
	checkCut(t, onePond(), 4, [][]int{{60, 60, 30}, {0, 0, 60}, {60, 0, 80}})
	checkCut(t, onePond(), 0, [][]int{{0, 60, 30}, {0, 60, 60}, {60, 0, 80}})
	checkCut(t, onePond(), 8, [][]int{{60, 60, 30}, {0, 60, 60}, {60, 0, 0}})
	checkCut(t, onePond(), 3, onePond())
	checkCut(t, [][]int{{0}}, 0, [][]int{{0}})
	checkCut(t, [][]int{{impl.MaxThick}}, 0, [][]int{{0}})
	checkCut(t, [][]int{{1, 2, 3}, {4, 5, 6}}, 2, [][]int{{1, 2, 0}, {4, 5, 6}})
	checkCut(t, [][]int{{1, 2, 3}, {4, 5, 6}}, 3, [][]int{{1, 2, 3}, {0, 5, 6}})
	checkCut(t, [][]int{{1, 2}, {3, 4}, {5, 6}}, 3, [][]int{{1, 2}, {3, 0}, {5, 6}})
}

func checkCut(t *testing.T, p [][]int, cell int, want [][]int) {
	if got := impl.CutCell(p, cell); !sameGrid(got, want) {
		t.Errorf("CutCell(%v, %d) = %v, not %v", p, cell, got, want)
	}
}

func TestPondFunctionsOfOtherPonds(t *testing.T) {
	for _, p := range badPonds() {
		for _, load := range sampleLoads() {
			if len(impl.SafeCells(p, load)) != 0 || len(impl.FieldsOf(p, load)) != 0 || len(impl.FieldSizes(p, load)) != 0 || len(impl.NarrowsOf(p, load)) != 0 {
				t.Errorf("%v has cells or fields with %d", p, load)
			}
			checkNoWayAtAll(t, p, load, 0, 0)
		}
		for _, cell := range badCells(p) {
			checkNoWayAtAll(t, p, 2500, cell, 0)
			checkNoWayAtAll(t, p, 2500, 0, cell)
			checkNoWayAtAll(t, p, 2500, cell, cell)
		}
		for _, temps := range append(sampleWeathers(), badWeathers()...) {
			checkGrown(t, p, temps, nil)
		}
	}
}

func TestWaysOfOtherCells(t *testing.T) {
	for _, p := range samplePonds() {
		for _, cell := range badCells(p) {
			for _, load := range []int{0, 2500} {
				checkNoWayAtAll(t, p, load, cell, cell)
				if len(impl.WayTo(p, load, 0, cell)) != 0 || len(impl.WayTo(p, load, cell, 0)) != 0 {
					t.Errorf("WayTo of %v with %d and the cell %d", p, load, cell)
				}
			}
			if impl.GreatestLoad(p, 0, cell) != -1 || impl.GreatestLoad(p, cell, 0) != -1 {
				t.Errorf("GreatestLoad of %v with the cell %d", p, cell)
			}
		}
	}
}

// checkNoWayAtAll checks the results for ponds and cells that are not valid.
func checkNoWayAtAll(t *testing.T, p [][]int, load int, from int, to int) {
	if got := impl.RisksFrom(p, load, from); len(got) != 0 {
		t.Errorf("RisksFrom(%v, %d, %d) = %v", p, load, from, got)
	}
	checkWayIs(t, p, load, from, to)
	checkGreatest(t, p, from, to, -1)
	checkCut(t, p, from, nil)
}

func TestGrowPondOfOtherWeathers(t *testing.T) {
	for _, p := range samplePonds() {
		for _, temps := range badWeathers() {
			checkGrown(t, p, temps, nil)
		}
	}
}
