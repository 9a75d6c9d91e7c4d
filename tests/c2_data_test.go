package tests

import "loop.example/iceharvest/impl"

// onePond returns a pond of two fields, in one of which cells hold each other together.
func onePond() [][]int {
	return [][]int{{60, 60, 30}, {0, 60, 60}, {60, 0, 80}}
}

// ringPond returns a pond with ice around open water.
func ringPond() [][]int {
	return [][]int{{60, 60, 60}, {60, 0, 60}, {60, 60, 60}}
}

// twoRingsPond returns a pond of two rings that meet at one cell, 12.
func twoRingsPond() [][]int {
	return [][]int{
		{60, 60, 60, 0, 0},
		{60, 0, 60, 0, 0},
		{60, 60, 60, 60, 60},
		{0, 0, 60, 0, 60},
		{0, 0, 60, 60, 60},
	}
}

// samplePonds returns ponds of all shapes, the smallest and the largest among them.
func samplePonds() [][][]int {
	list := [][][]int{
		{{0}},
		{{50}},
		{{impl.MaxThick}},
		{{9, 9, 9}},
		{{60}, {0}, {60}, {60}},
		{{9, 9}, {9, 9}},
		{{50, 9}, {50, 50}},
		onePond(),
		ringPond(),
		twoRingsPond(),
		{{60, 60, 60, 60, 60}, {60, 0, 60, 0, 60}, {60, 60, 60, 60, 60}},
		{{999, 0, 999}, {999, 999, 999}},
		{spread(impl.MaxSide, 1, 0, impl.MaxThick)},
	}
	return append(list, irregularPonds()...)
}

// irregularPonds returns ponds of many fields, of which some have the most rows or columns.
func irregularPonds() [][][]int {
	return [][][]int{
		mixedPond(3, 4, 2),
		mixedPond(4, 3, 5),
		mixedPond(5, 6, 6),
		mixedPond(2, impl.MaxSide, 8),
		mixedPond(impl.MaxSide, 3, 4),
		mixedPond(impl.MaxSide, impl.MaxSide, 3),
		evenGrid(impl.MaxSide, impl.MaxSide, 0),
		evenGrid(impl.MaxSide, impl.MaxSide, impl.MaxThick),
		chessPond(impl.MaxSide, impl.MaxSide),
	}
}

// mixedPond returns a pond of open water and of thin and thick ice that looks irregular.
func mixedPond(rows int, columns int, seed int) [][]int {
	kinds := []int{0, 30, 50, 50, 60, 60, 80, 999}
	p := evenGrid(rows, columns, 0)
	for y := range p {
		for x, kind := range spread(columns, seed+y*y, 0, len(kinds)-1) {
			p[y][x] = kinds[kind]
		}
	}
	return p
}

// chessPond returns a pond in which no two cells with ice are beside each other.
func chessPond(rows int, columns int) [][]int {
	p := evenGrid(rows, columns, 0)
	for y := range p {
		for x := y % 2; x < columns; x += 2 {
			p[y][x] = 60
		}
	}
	return p
}

// badPonds returns ponds that are not valid, each for one reason alone.
func badPonds() [][][]int {
	return [][][]int{
		nil,
		{},
		{nil},
		{{}},
		{{}, {}},
		{{1}, {1, 2}},
		{{1, 2}, {1}},
		{{1, 2}, {1, 2}, {}},
		{{}, {1}},
		evenGrid(impl.MaxSide+1, 1, 50),
		evenGrid(1, impl.MaxSide+1, 50),
		evenGrid(impl.MaxSide+1, impl.MaxSide, 50),
		evenGrid(impl.MaxSide, impl.MaxSide+1, 50),
		{{-1}},
		{{impl.MaxThick + 1}},
		{{0, 50}, {50, -1}},
		{{0, 50}, {impl.MaxThick + 1, 0}},
		{{greatestInt, 50}},
		{{50, leastInt}},
	}
}

// sampleLoads returns loads, ascending, with those that are none, those of the ice of the sample ponds and their neighbours.
func sampleLoads() []int {
	return []int{leastInt, -1, 0, 1, 81, 900, 2499, 2500, 2501, 3600, 3601, 6400, impl.MaxLoad, impl.MaxMass, impl.MaxMass + 1, greatestInt}
}

// someCells returns all cells of a small pond, and the first, the last and some others of a large one.
func someCells(p [][]int) []int {
	cells := []int{}
	step := 1 + countCells(p)/16
	for cell := 0; cell < countCells(p); cell += step {
		cells = append(cells, cell)
	}
	if cells[len(cells)-1] != countCells(p)-1 {
		cells = append(cells, countCells(p)-1)
	}
	return cells
}

// riskOfCell returns the risk of a cell.
func riskOfCell(p [][]int, cell int) int {
	return 1 + 200/(1+numberAt(p, cell))
}

// areBeside reports whether a step leads from one cell to another one.
func areBeside(p [][]int, a int, b int) bool {
	columns := len(p[0])
	return absolute(a/columns-b/columns)+absolute(a%columns-b%columns) == 1
}

// cellsNextTo returns the cells to which a step leads from a cell, ascending.
func cellsNextTo(p [][]int, cell int) []int {
	cells := []int{}
	for other := 0; other < countCells(p); other++ {
		if areBeside(p, cell, other) {
			cells = append(cells, other)
		}
	}
	return cells
}
