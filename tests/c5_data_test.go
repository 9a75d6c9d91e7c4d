package tests

import "loop.example/iceharvest/impl"

// stairs returns a heap of four places, one of them empty.
func stairs() [][]int {
	return [][]int{{2, 1}, {0, 1}}
}

// ringHeap returns a heap with a hole in its middle.
func ringHeap() [][]int {
	return [][]int{{3, 3, 3}, {3, 0, 3}, {3, 3, 3}}
}

// towerHeap returns a heap with one cell higher than all others.
func towerHeap() [][]int {
	return [][]int{{1, 1, 1}, {1, 12, 1}, {1, 1, 1}}
}

// sampleHeaps returns heaps of all shapes, the smallest and the largest among them.
func sampleHeaps() [][][]int {
	list := [][][]int{
		{{0}}, {{1}}, {{2}}, {{5}}, {{10}}, {{11}}, {{12}},
		{{0, 0, 0}}, {{0}, {0}, {0}}, {{0, 1, 0}}, {{0}, {0}, {1}},
		{{1, 0, 1}}, {{3, 3}}, {{1, 1, 1}}, {{12, 0, 12}}, {{0, 12, 11}},
		{{5}, {0}, {7}}, {{12}, {12}}, {{1, 2, 3, 4, 5, 6, 7, 8, 9}},
		{{12}, {11}, {10}, {9}, {8}, {7}, {6}, {5}, {4}},
		stairs(), ringHeap(), towerHeap(),
		{{12, 12, 12}, {12, 11, 12}, {12, 12, 12}},
		{{4, 4}, {4, 4}, {4, 4}},
		{{2, 1, 2}, {2, 2, 2}},
		evenGrid(1, impl.MaxSide, 1),
		evenGrid(impl.MaxSide, 1, impl.MaxHigh),
	}
	return append(list, largeHeaps()...)
}

// largeHeaps returns heaps of many places, of which some have the most rows or columns.
func largeHeaps() [][][]int {
	tower := evenGrid(impl.MaxSide, impl.MaxSide, 4)
	tower[4][4] = impl.MaxHigh
	holed := evenGrid(impl.MaxSide, impl.MaxSide, impl.MaxHigh)
	holed[3][5] = 0
	alone := evenGrid(impl.MaxSide, impl.MaxSide, 0)
	alone[8][8] = 1
	return [][][]int{
		mixedHeap(3, 4, 1, impl.MaxHigh),
		mixedHeap(5, 2, 2, 3),
		mixedHeap(2, impl.MaxSide, 3, 6),
		mixedHeap(impl.MaxSide, 3, 4, impl.MaxHigh),
		mixedHeap(impl.MaxSide, impl.MaxSide, 5, impl.MaxHigh),
		mixedHeap(impl.MaxSide, impl.MaxSide, 6, 1),
		evenGrid(impl.MaxSide, impl.MaxSide, 0),
		evenGrid(impl.MaxSide, impl.MaxSide, 1),
		evenGrid(impl.MaxSide, impl.MaxSide, impl.MaxHigh),
		tower, holed, alone,
	}
}

// mixedHeap returns a heap of heights up to the highest one that looks irregular.
func mixedHeap(rows int, columns int, seed int, highest int) [][]int {
	h := make([][]int, rows)
	for y := range h {
		h[y] = spread(columns, seed*13+y*y*7+y, 0, highest)
	}
	return h
}

// smallHeaps returns all heaps of the sides of which no height is greater than the highest one.
func smallHeaps(rows int, columns int, highest int) [][][]int {
	list := [][][]int{evenGrid(rows, columns, 0)}
	for cell := 0; cell < rows*columns; cell++ {
		// Each heap that is there so far has no cakes at this cell yet.
		for _, h := range list {
			for high := 1; high <= highest; high++ {
				higher := gridCopy(h)
				higher[cell/columns][cell%columns] = high
				list = append(list, higher)
			}
		}
	}
	return list
}

// manyHeaps returns the sample heaps, and all heaps of some small shapes.
func manyHeaps() [][][]int {
	list := sampleHeaps()
	list = append(list, smallHeaps(1, 1, impl.MaxHigh)...)
	list = append(list, smallHeaps(1, 3, 3)...)
	list = append(list, smallHeaps(3, 1, 3)...)
	list = append(list, smallHeaps(2, 2, 3)...)
	list = append(list, smallHeaps(2, 3, 1)...)
	return append(list, smallHeaps(3, 3, 1)...)
}

// badHeaps returns heaps that are not valid, each for one reason alone.
func badHeaps() [][][]int {
	return [][][]int{
		nil,
		{},
		{nil},
		{{}},
		{{}, {}},
		{{}, {1}},
		{{1}, {}},
		{{1}, {1, 2}},
		{{1, 2}, {1}},
		{{1, 2}, {1, 2}, {1, 2, 3}},
		evenGrid(impl.MaxSide+1, 1, 1),
		evenGrid(1, impl.MaxSide+1, 1),
		evenGrid(impl.MaxSide+1, impl.MaxSide, 0),
		evenGrid(impl.MaxSide, impl.MaxSide+1, 0),
		{{-1}},
		{{impl.MaxHigh + 1}},
		{{0, 5}, {5, -1}},
		{{0, 5}, {impl.MaxHigh + 1, 0}},
		{{-1, 5}, {5, 5}},
		{{greatestInt, 5}},
		{{5, leastInt}},
	}
}

// badHouseSides returns numbers that are no sides of a house.
func badHouseSides() []int {
	return []int{0, -1, -impl.MaxSide, impl.MaxSide + 1, greatestInt, leastInt}
}

// badDays returns numbers that are no days of melting.
func badDays() []int {
	return []int{-1, -impl.MaxDays, impl.MaxDays + 1, greatestInt, leastInt}
}

// sumOfHeap returns the sum of all heights.
func sumOfHeap(h [][]int) int {
	sum := 0
	for _, row := range h {
		sum += sumOf(row)
	}
	return sum
}

// hasCake reports whether a cake lies in a layer of a place, which may be outside of the heap.
func hasCake(h [][]int, x int, y int, layer int) bool {
	return y >= 0 && y < len(h) && x >= 0 && x < len(h[0]) && layer < h[y][x]
}

// facesByCakes returns the number of faces in the air, cake by cake and side by side.
func facesByCakes(h [][]int) int {
	faces := 0
	for cell := 0; cell < countCells(h); cell++ {
		x := cell % len(h[0])
		y := cell / len(h[0])
		for layer := 0; layer < numberAt(h, cell); layer++ {
			for _, free := range []bool{
				!hasCake(h, x, y, layer+1),
				!hasCake(h, x-1, y, layer), !hasCake(h, x+1, y, layer),
				!hasCake(h, x, y-1, layer), !hasCake(h, x, y+1, layer),
			} {
				if free {
					faces++
				}
			}
		}
	}
	return faces
}

// meltedByLayers returns a heap after a day: cakes go from the last one of the highest layer to the first one of the lowest.
func meltedByLayers(h [][]int) [][]int {
	left := gridCopy(h)
	gone := (facesByCakes(h) + 9) / 10
	for layer := impl.MaxHigh; layer >= 1; layer-- {
		for cell := countCells(h) - 1; cell >= 0; cell-- {
			if gone > 0 && numberAt(left, cell) == layer {
				left[cell/len(h[0])][cell%len(h[0])]--
				gone--
			}
		}
	}
	return left
}

// daysByDays returns after how many days, at most MaxDays, enough cakes are still there; -1 if there are too few at first.
func daysByDays(h [][]int, keep int) int {
	days := -1
	left := gridCopy(h)
	for days < impl.MaxDays && sumOfHeap(left) >= keep {
		days++
		left = meltedByLayers(left)
	}
	return days
}

// boxFaces returns the number of faces of a box in the air: its top and its four walls.
func boxFaces(w int, d int, high int) int {
	return w*d + 2*w*high + 2*d*high
}
