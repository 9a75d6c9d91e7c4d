package tests

import (
	"testing"

	"loop.example/iceharvest/impl"
)

func TestPromise14PondsCanBeTurned(t *testing.T) {
	for _, p := range samplePonds() {
		if !impl.ValidPond(p) || !impl.ValidPond(turnedGrid(p)) {
			t.Errorf("ValidPond of %v, or of the turned pond", p)
		}
		for _, row := range p {
			if !impl.ValidPond([][]int{row}) {
				t.Errorf("ValidPond of the row %v alone", row)
			}
		}
	}
}

func TestPromise15LighterLoadsAreSafer(t *testing.T) {
	for _, p := range samplePonds() {
		for _, load := range sampleLoads() {
			if load <= 0 {
				continue
			}
			lighter := impl.SafeCells(p, load/2)
			for cell, safe := range impl.SafeCells(p, load) {
				if safe && !lighter[cell] {
					t.Errorf("%v: cell %d bears %d, but not %d", p, cell, load, load/2)
				}
			}
		}
	}
}

func TestPromise16FieldsAreApart(t *testing.T) {
	for _, p := range samplePonds() {
		for _, load := range sampleLoads() {
			safe := impl.SafeCells(p, load)
			fields := impl.FieldsOf(p, load)
			if len(safe) != countCells(p) || len(fields) != countCells(p) {
				t.Fatalf("%v, %d: %v, %v", p, load, safe, fields)
			}
			checkFieldsHoldTogether(t, p, safe, fields)
			checkFieldsAreNumbered(t, p, fields)
		}
	}
}

// checkFieldsHoldTogether checks that just the cells that are safe have fields, and that those beside each other have the same.
func checkFieldsHoldTogether(t *testing.T, p [][]int, safe []bool, fields []int) {
	for cell := range safe {
		if safe[cell] != (fields[cell] >= 0) || fields[cell] < -1 {
			t.Fatalf("%v: cell %d is in field %d of %v", p, cell, fields[cell], fields)
		}
		for _, next := range cellsNextTo(p, cell) {
			if safe[cell] && safe[next] && fields[cell] != fields[next] {
				t.Fatalf("%v: the cells %d and %d are in two fields of %v", p, cell, next, fields)
			}
		}
	}
}

// checkFieldsAreNumbered checks that fields are numbered from 0 on by their first cells.
func checkFieldsAreNumbered(t *testing.T, p [][]int, fields []int) {
	count := 0
	for _, field := range fields {
		if field > count {
			t.Fatalf("%v: field %d comes before field %d in %v", p, field, count, fields)
		}
		if field == count {
			count++
		}
	}
}

func TestPromise16CellsOfAFieldAreJoined(t *testing.T) {
	for _, p := range samplePonds() {
		for _, load := range sampleLoads() {
			joined := joinedCells(p, impl.SafeCells(p, load))
			fields := impl.FieldsOf(p, load)
			for a := range fields {
				for b := range fields {
					if fields[a] >= 0 && fields[b] >= 0 && (fields[a] == fields[b]) != (joined[a] == joined[b]) {
						t.Fatalf("%v, %d: cells %d and %d in %v", p, load, a, b, fields)
					}
				}
			}
		}
	}
}

// joinedCells returns, for each safe cell, the least cell to which steps over safe cells lead.
func joinedCells(p [][]int, safe []bool) []int {
	least := make([]int, len(safe))
	for cell := range least {
		least[cell] = cell
	}
	// A cell tells the least one of those beside it, until no cell has news.
	for news := true; news; {
		news = false
		for cell := range least {
			for _, next := range cellsNextTo(p, cell) {
				if safe[cell] && safe[next] && least[next] < least[cell] {
					least[cell] = least[next]
					news = true
				}
			}
		}
	}
	return least
}

func TestPromise17FieldsHaveAllSafeCells(t *testing.T) {
	for _, p := range samplePonds() {
		for _, load := range sampleLoads() {
			sizes := impl.FieldSizes(p, load)
			sum := 0
			for field, size := range sizes {
				if size < 1 || size != timesIn(impl.FieldsOf(p, load), field) {
					t.Errorf("FieldSizes(%v, %d) = %v", p, load, sizes)
				}
				sum += size
			}
			if sum != countTrue(impl.SafeCells(p, load)) {
				t.Errorf("FieldSizes(%v, %d) = %v has not all safe cells", p, load, sizes)
			}
			if turned := impl.FieldSizes(turnedGrid(p), load); !sameTogether(sizes, turned) {
				t.Errorf("FieldSizes(%v, %d) = %v, but %v if it is turned", p, load, sizes, turned)
			}
		}
	}
}

// countTrue returns how many of a list are true.
func countTrue(list []bool) int {
	count := 0
	for _, yes := range list {
		if yes {
			count++
		}
	}
	return count
}

// timesIn returns how many numbers of a list are the number.
func timesIn(list []int, number int) int {
	count := 0
	for _, n := range list {
		if n == number {
			count++
		}
	}
	return count
}

// sameTogether reports whether two lists have the same numbers in any order.
func sameTogether(a []int, b []int) bool {
	if len(a) != len(b) {
		return false
	}
	for _, number := range a {
		if timesIn(a, number) != timesIn(b, number) {
			return false
		}
	}
	return true
}

func TestPromise18NarrowsHoldFieldsTogether(t *testing.T) {
	for _, p := range samplePonds() {
		for _, load := range sampleLoads() {
			// Open water bears loads that are none, so that no cell could be taken away.
			if load > 0 {
				checkNarrows(t, p, load)
			}
		}
	}
}

// checkNarrows checks which cells are narrows by cutting each one.
func checkNarrows(t *testing.T, p [][]int, load int) {
	narrows := impl.NarrowsOf(p, load)
	checkCellsAscend(t, p, narrows)
	sizes := impl.FieldSizes(p, load)
	fields := impl.FieldsOf(p, load)
	for cell, field := range fields {
		more := len(impl.FieldSizes(impl.CutCell(p, cell), load)) - len(sizes)
		narrow := timesIn(narrows, cell) == 1
		if narrow != (more > 0) || narrow && field < 0 {
			t.Fatalf("NarrowsOf(%v, %d) = %v, but without cell %d there are %d fields more", p, load, narrows, cell, more)
		}
		if field >= 0 && (more < 0) != (sizes[field] == 1) || more < -1 {
			t.Fatalf("%v, %d: without cell %d there are %d fields more", p, load, cell, more)
		}
	}
}

// checkCellsAscend checks that a list has cells of a pond, ascending.
func checkCellsAscend(t *testing.T, p [][]int, cells []int) {
	before := -1
	for _, cell := range cells {
		if cell <= before || cell >= countCells(p) {
			t.Fatalf("%v: the cells %v", p, cells)
		}
		before = cell
	}
}

func TestPromise18NarrowsOfLoadsThatAllCellsBear(t *testing.T) {
	for _, p := range samplePonds() {
		want := impl.NarrowsOf(evenGrid(len(p), len(p[0]), 9), 81)
		for _, load := range []int{0, -1, leastInt} {
			if got := impl.NarrowsOf(p, load); !sameInts(got, want) {
				t.Errorf("NarrowsOf(%v, %d) = %v, not %v", p, load, got, want)
			}
		}
	}
}

func TestPromise19EachFieldCanBeTakenCellByCell(t *testing.T) {
	for _, p := range samplePonds() {
		for _, load := range sampleLoads() {
			fields := impl.FieldsOf(p, load)
			narrows := impl.NarrowsOf(p, load)
			for field, size := range impl.FieldSizes(p, load) {
				within := 0
				for _, cell := range narrows {
					if fields[cell] == field {
						within++
					}
				}
				if size >= 2 && size-within < 2 {
					t.Errorf("NarrowsOf(%v, %d) = %v leaves %d cells of field %d", p, load, narrows, size-within, field)
				}
			}
		}
	}
}

func TestPromise20RisksAddUpStepByStep(t *testing.T) {
	for _, p := range samplePonds() {
		for _, load := range sampleLoads() {
			fields := impl.FieldsOf(p, load)
			for _, from := range someCells(p) {
				risks := impl.RisksFrom(p, load, from)
				if len(risks) != countCells(p) {
					t.Fatalf("RisksFrom(%v, %d, %d) = %v", p, load, from, risks)
				}
				for cell, risk := range risks {
					if want := riskByThoseBeside(p, fields, risks, from, cell); risk != want {
						t.Fatalf("RisksFrom(%v, %d, %d) = %v, but %d to %d", p, load, from, risks, want, cell)
					}
				}
			}
		}
	}
}

// riskByThoseBeside returns the risk of the way to a cell as it follows from the risks of those beside it.
func riskByThoseBeside(p [][]int, fields []int, risks []int, from int, cell int) int {
	if fields[from] < 0 || fields[cell] != fields[from] {
		return -1
	}
	if cell == from {
		return riskOfCell(p, cell)
	}
	least := -1
	for _, next := range cellsNextTo(p, cell) {
		if risks[next] >= 0 && (least < 0 || risks[next] < least) {
			least = risks[next]
		}
	}
	return least + riskOfCell(p, cell)
}

func TestPromise20NoWayHasLessRisk(t *testing.T) {
	for _, p := range samplePonds() {
		// All ways of larger ponds are too many.
		if countCells(p) > 12 {
			continue
		}
		for _, load := range []int{0, 81, 2500} {
			safe := impl.SafeCells(p, load)
			for from := range safe {
				want := risksOfAllWays(p, safe, from)
				if got := impl.RisksFrom(p, load, from); !sameInts(got, want) {
					t.Errorf("RisksFrom(%v, %d, %d) = %v, not %v", p, load, from, got, want)
				}
			}
		}
	}
}

// risksOfAllWays returns the least risks of all ways without a cell twice from a cell to all others; -1 where there is none.
func risksOfAllWays(p [][]int, safe []bool, from int) []int {
	risks := repeated(-1, len(safe))
	if safe[from] {
		goOn(p, safe, make([]bool, len(safe)), risks, from, 0)
	}
	return risks
}

// goOn notes the risk of a way that comes to a cell, and of all ways that go on from there.
func goOn(p [][]int, safe []bool, passed []bool, risks []int, cell int, risk int) {
	passed[cell] = true
	risk += riskOfCell(p, cell)
	if risks[cell] < 0 || risk < risks[cell] {
		risks[cell] = risk
	}
	for _, next := range cellsNextTo(p, cell) {
		if safe[next] && !passed[next] {
			goOn(p, safe, passed, risks, next, risk)
		}
	}
	passed[cell] = false
}

func TestPromise21WaysLeadFromCellToCell(t *testing.T) {
	for _, p := range samplePonds() {
		for _, load := range sampleLoads() {
			fields := impl.FieldsOf(p, load)
			for _, from := range someCells(p) {
				risks := impl.RisksFrom(p, load, from)
				for _, to := range someCells(p) {
					way := impl.WayTo(p, load, from, to)
					if fields[from] < 0 || fields[from] != fields[to] {
						checkNoWay(t, p, from, to, way)
					} else {
						checkWay(t, p, fields, risks, from, to, way)
					}
				}
			}
		}
	}
}

// checkNoWay checks that there is no way.
func checkNoWay(t *testing.T, p [][]int, from int, to int, way []int) {
	if len(way) != 0 {
		t.Fatalf("%v: the way %v from %d to %d", p, way, from, to)
	}
}

// checkWay checks that a way leads from cell to cell in one field with the least risk.
func checkWay(t *testing.T, p [][]int, fields []int, risks []int, from int, to int, way []int) {
	if len(way) == 0 || way[0] != from || way[len(way)-1] != to {
		t.Fatalf("%v: the way %v from %d to %d", p, way, from, to)
	}
	sum := 0
	for i, cell := range way {
		if i > 0 && !areBeside(p, way[i-1], cell) || fields[cell] != fields[from] {
			t.Fatalf("%v: the way %v from %d to %d at %d", p, way, from, to, cell)
		}
		sum += riskOfCell(p, cell)
		if sum != risks[cell] {
			t.Fatalf("%v: the way %v has the risk %d to %d, not %d", p, way, sum, cell, risks[cell])
		}
	}
}

func TestPromise22WaysBackAreAsSafe(t *testing.T) {
	for _, p := range samplePonds() {
		for _, load := range sampleLoads() {
			for _, from := range someCells(p) {
				risks := impl.RisksFrom(p, load, from)
				for _, to := range someCells(p) {
					if back := impl.RisksFrom(p, load, to); back[from] != risks[to] {
						t.Fatalf("%v, %d: the risk %d from %d to %d, but %d back", p, load, risks[to], from, to, back[from])
					}
					if isWay(p, load, from, to) != isWay(p, load, to, from) {
						t.Fatalf("%v, %d: a way from %d to %d, or back, but not both", p, load, from, to)
					}
				}
			}
		}
	}
}

// isWay reports whether there is a way from one cell to another one.
func isWay(p [][]int, load int, from int, to int) bool {
	return len(impl.WayTo(p, load, from, to)) > 0
}

func TestPromise23TheGreatestLoadGetsThrough(t *testing.T) {
	for _, p := range samplePonds() {
		for _, from := range someCells(p) {
			for _, to := range someCells(p) {
				load := impl.GreatestLoad(p, from, to)
				if load < 0 || load > impl.MaxLoad || !isWay(p, load, from, to) {
					t.Fatalf("GreatestLoad(%v, %d, %d) = %d", p, from, to, load)
				}
				if load < impl.MaxLoad && isWay(p, load+1, from, to) {
					t.Fatalf("GreatestLoad(%v, %d, %d) = %d is not the greatest", p, from, to, load)
				}
			}
		}
	}
}

func TestPromise24TwoLoadsGetThroughWhereBothWaysMeet(t *testing.T) {
	for _, p := range samplePonds() {
		cells := someCells(p)
		loads := loadsBetween(p, cells)
		for a := range cells {
			for b := range cells {
				for c := range cells {
					if loads[a][b] < loads[a][c] && loads[a][b] < loads[c][b] {
						t.Fatalf("%v: %d from %d to %d, but more over %d", p, loads[a][b], cells[a], cells[b], cells[c])
					}
				}
			}
		}
	}
}

// loadsBetween returns GreatestLoad from each of some cells to each of them.
func loadsBetween(p [][]int, cells []int) [][]int {
	loads := make([][]int, len(cells))
	for i, from := range cells {
		loads[i] = make([]int, len(cells))
		for j, to := range cells {
			loads[i][j] = impl.GreatestLoad(p, from, to)
		}
	}
	return loads
}

func TestPromise25PondsGrowCellByCell(t *testing.T) {
	for _, p := range samplePonds() {
		for _, temps := range sampleWeathers() {
			grown := impl.GrowPond(p, temps)
			if turned := impl.GrowPond(turnedGrid(p), temps); !sameGrid(turned, turnedGrid(grown)) {
				t.Errorf("GrowPond of %v turned, %v, is %v", p, temps, turned)
			}
			for cell := 0; cell < countCells(p); cell++ {
				thick := numberAt(p, cell)
				if want := impl.ThickOf(impl.RunIce(thick*thick, temps)); numberAt(grown, cell) != want {
					t.Errorf("GrowPond(%v, %v) = %v, not %d at %d", p, temps, grown, want, cell)
				}
			}
		}
	}
}

func TestPromise25FrostAloneMakesNoCellThinner(t *testing.T) {
	for _, p := range samplePonds() {
		for _, temps := range sampleFrosts() {
			grown := impl.GrowPond(p, temps)
			for cell := 0; cell < countCells(p); cell++ {
				if numberAt(grown, cell) < numberAt(p, cell) {
					t.Errorf("GrowPond(%v, %v) = %v is thinner at %d", p, temps, grown, cell)
				}
			}
		}
	}
}

func TestPromise26FrostMakesPondsSafer(t *testing.T) {
	for _, p := range samplePonds() {
		for _, temps := range sampleFrosts() {
			grown := impl.GrowPond(p, temps)
			for _, load := range sampleLoads() {
				after := impl.SafeCells(grown, load)
				for cell, safe := range impl.SafeCells(p, load) {
					if safe && !after[cell] {
						t.Fatalf("%v bears %d at %d, but not after %v", p, load, cell, temps)
					}
				}
			}
		}
	}
}

func TestPromise26FrostClosesNoWay(t *testing.T) {
	for _, p := range samplePonds() {
		for _, temps := range [][]int{nil, {-1}, {-50, -50}, {0, -400, 0, -1}} {
			checkWaysStay(t, p, impl.GrowPond(p, temps))
		}
	}
}

// checkWaysStay checks that a pond after frost lets through all that got through before.
func checkWaysStay(t *testing.T, p [][]int, grown [][]int) {
	from := countCells(p) / 2
	for _, to := range someCells(p) {
		if impl.GreatestLoad(grown, from, to) < impl.GreatestLoad(p, from, to) {
			t.Fatalf("%v lets less through than %v from %d to %d", grown, p, from, to)
		}
		for _, load := range sampleLoads() {
			if isWay(p, load, from, to) && !isWay(grown, load, from, to) {
				t.Fatalf("%v has no way with %d from %d to %d, but %v had", grown, load, from, to, p)
			}
		}
	}
}

func TestPromise27CutCellsAreOpen(t *testing.T) {
	for _, p := range samplePonds() {
		for cell := 0; cell < countCells(p); cell++ {
			cut := impl.CutCell(p, cell)
			want := gridCopy(p)
			want[cell/len(p[0])][cell%len(p[0])] = 0
			if !sameGrid(cut, want) {
				t.Errorf("CutCell(%v, %d) = %v", p, cell, cut)
			}
			if twice := impl.CutCell(cut, cell); !sameGrid(twice, cut) {
				t.Errorf("CutCell(%v, %d) = %v", cut, cell, twice)
			}
		}
	}
}
